/- The walk of Best. -/
import Derived.Test.YthjacjckobkhmaaURoom
namespace Go.Proofs.Ythjacjckobkhmaa
open Go.RowKit
attribute [local go_sem] Oper.semAt_some

/-- The three variables of a search. -/
def bN : Option Gh → Int
  | none => 0
  | some h => h.n
def bS : Option Gh → Bool
  | none => false
  | some _ => true
def bF : Option Gh → Int
  | none => 0
  | some h => free h
/-- As the document's search answers. -/
def wantO : Option Gh → Int
  | none => -1
  | some h => h.n
def ltB (h b : Gh) : Bool := decide (free h < free b)
def BestI (w : World) (q : Nat) (S : List Gh) (s : Nat) (M : Nat → Prop) (W : World) : Prop :=
  Loc w q 3 M W ∧ W.heap[q]? = some (.cells #[.int .i64 (bN (minOf notFull ltB (S.take s)))] 3 (0, 0)) ∧ W.heap[q + 1]? = some (.cells #[.int .i64 (bF (minOf notFull ltB (S.take s)))] 3 (0, 0)) ∧
    W.heap[q + 2]? = some (.cells #[.bool (bS (minOf notFull ltB (S.take s)))] 4 (0, 0)) ∧ s ≤ S.length
theorem best_abides (w : World) (q : Nat) (S : List Gh) : Abides (BestI w q S) := by
  rintro s M M' W W' ⟨h1, h2, h4, h5, h3⟩ hk hM
  exact ⟨h1.kept hk hM, hk.at h2 (h1.no (by omega)), hk.at h4 (h1.no (by omega)), hk.at h5 (h1.no (by omega)), h3⟩
/-- Three variables in new blocks. -/
theorem three_vars (w : World) (u0 u1 u2 : Value) (t0 t1 t2 : TypeId) : ∃ W, W = ((w.alloc (.cells #[u0] t0)).alloc (.cells #[u1] t1)).alloc (.cells #[u2] t2) ∧ Below w.heap.size w W ∧ W.heap.size = w.heap.size + 3 ∧
    W.heap[w.heap.size]? = some (.cells #[u0] t0 (0, 0)) ∧ W.heap[w.heap.size + 1]? = some (.cells #[u1] t1 (0, 0)) ∧ W.heap[w.heap.size + 2]? = some (.cells #[u2] t2 (0, 0)) := by
  refine ⟨_, rfl, (((Below.refl _ w).alloc (Nat.le_refl _) _).alloc (by simp) _).alloc (by simp <;> omega) _, by simp, ?_, ?_, ?_⟩
  · rw [Below.heap_alloc _ _ _ (by simp <;> omega), Below.heap_alloc _ _ _ (by simp)]
    exact heap_alloc_new w _
  · have := heap_alloc_new (w.alloc (.cells #[u0] t0)) (.cells #[u1] t1)
    rw [World.size_alloc] at this
    rw [Below.heap_alloc _ _ _ (by simp)]
    exact this
  · have := heap_alloc_new ((w.alloc (.cells #[u0] t0)).alloc (.cells #[u1] t1)) (.cells #[u2] t2)
    rw [World.size_alloc, World.size_alloc] at this
    exact this

set_option maxRecDepth 100000 in
set_option maxHeartbeats 1000000 in
theorem gBest_any {v : Value} {L : List Gh} {bs : List Int} {a : Option Addr} {c : Nat} (w : World) (hbk : BookP w v L) (hG : Gok L) (hi : IntsAt .i64 w a bs)
    (hbs : ∀ b ∈ bs, -9223372036854775808 ≤ b ∧ b ≤ 9223372036854775807) (hl : bs.length ≤ 100) (hL : L.length ≤ 100) :
    Calls Try.prog 10 #[v, .slice a bs.length c] w fun e w' => e = .returned (.tuple #[.int .i64 (bN (bestD (butG L bs))), .bool (bS (bestD (butG L bs)))]) ∧ Below w.heap.size w w' := by
  have hv : v = .pointer none ∨ ∃ r : Nat, v = .pointer (some ⟨r, 0, none⟩) := by
    rcases hbk with ⟨h, _⟩ | ⟨r, _, h, _⟩
    · exact .inl h
    · exact .inr ⟨r, h⟩
  obtain ⟨W1, hW1, hb1, hs1, r1, r2, r3⟩ := three_vars w (.int .i64 0) (.int .i64 0) (.bool false) 3 3 4
  have i1 : IntsAt .i64 W1 a bs := by
    rcases hi with h | ⟨b, off, rfl, hlt, hc⟩
    · exact .inl h
    · exact .inr ⟨b, off, rfl, by omega, fun i hi => (hb1.cell (p := ⟨b, off + i, none⟩) hlt).trans (hc i hi)⟩
  have HO : Hid _ := others_any v a bs.length c W1 hv
  refine (callsIn_wide (n := 3)).1 ?_
  refine callsIn_of_wp_marks Try.func10 rfl trivial ?_ rfl
  simp only [Try.ntmps10, List.size_toArray, List.length_cons, List.length_nil, Nat.reduceAdd, Nat.reduceSub, Array.replicate_succ, Array.replicate_zero, List.push_toArray, List.append_toArray, List.nil_append, List.cons_append]
  gi_wp2_with fail
  rw [← hW1]
  clear hW1
  refine ⟨trivial, CallsIn.mono (callsIn_wide.2 HO.out) ?_⟩
  rintro e W0 ⟨rfl, hc, hb0, hs0⟩
  rw [hs1] at hc hb0 hs0 ⊢
  have i0 : IntsAt .i64 W0 a bs := by
    rcases i1 with h | ⟨b, off, rfl, hlt, hc⟩
    · exact .inl h
    · exact .inr ⟨b, off, rfl, by omega, fun i hi => (hb0.cell (p := ⟨b, off + i, none⟩) (by show b < _; omega)).trans (hc i hi)⟩
  have hbw : Below w.heap.size w W0 := hb1.trans (hb0.mono (by omega))
  have hbk0 := hbk.below hbw
  have r10 := (hb0.block _ (by omega)).trans r1
  have r20 := (hb0.block _ (by omega)).trans r2
  have r30 := (hb0.block _ (by omega)).trans r3
  obtain ⟨S, hS⟩ : ∃ S, srt (butG L bs) = S := ⟨_, rfl⟩
  have hit := others_iter (K0 := fun _ => False) W0 hc hbk0 hG i0 hbs hl hL
  rw [hS] at hit
  have hSo : ∀ x ∈ S, 0 ≤ x.u ∧ x.u ≤ x.m ∧ x.m ≤ 100000000 := by
    intro x hx
    rw [← hS, (srt_perm _).mem_iff] at hx
    have := hG.ok x (List.mem_filter.1 hx).1
    omega
  have HEND : Hid (minOf notFull ltB S = bestD (butG L bs)) := by
    show _ = _
    rw [← hS]
    exact best_doc (hG.filter _)
  have HSO : Hid (∀ x ∈ S, 0 ≤ x.u ∧ x.u ≤ x.m ∧ x.m ≤ 100000000) := hSo
  clear hS hi i1 hc hbk hbk0 i0 hbs hSo HO hb1 hb0 r1 r2 r3 hv
  gi_wp2_with fail
  refine range_wp (gf := 27) (lb := uLb (w.heap.size + 3)) rfl (enters_of Try.func27 (by kernel_rfl) rfl)
    hit (fun i hi => hi.elim) (fun _ => rfl) (BestI w w.heap.size S) (fun _ _ _ => False) (best_abides w w.heap.size S) (fun _ _ _ _ _ h _ _ => h)
    ⟨⟨hbw, by omega, fun _ h => h.elim⟩, by rw [minOf_zero]; exact r10, by rw [minOf_zero]; exact r20, by rw [minOf_zero]; exact r30, by omega⟩
    (fun x W a1 W1 => W1 = W.alloc (.cells #[.int .i64 x.u, .int .i64 x.m] 51) ∧ a1 = { tmps := #[v, .slice a bs.length c, undef, undef, .int .i64 0, .bool false, .pointer (some ⟨w.heap.size, 0, none⟩), .pointer (some ⟨w.heap.size + 1, 0, none⟩), .pointer (some ⟨w.heap.size + 2, 0, none⟩), .int .i64 x.n, .pointer (some ⟨W.heap.size, 0, none⟩), v, .slice a bs.length c, .func (.func 27) #[] (uLb (w.heap.size + 3)), .int .i64 x.n, .agg #[.int .i64 x.u, .int .i64 x.m], undef, undef, undef, undef, undef, undef, undef, undef, undef, undef, undef, undef, undef, undef, undef, undef, undef, undef], defers := [] }) ?assign ?body ?done ?stop
  case assign =>
    intro m l x W K hK
    obtain ⟨xn, xu, xm⟩ := x
    unfold ghV
    gi_wp2
    exact hK _ _ ((Below.refl _ W).alloc (Nat.le_refl _) _) ⟨rfl, rfl⟩
  case body =>
    rintro m l s M x W a1 W1 Wr ⟨hlc, hv0, hv1, hv2, hsl⟩ hx hMl hl2 hM hbW ⟨rfl, rfl⟩ hlp hk hsz
    have hk1 : Keeps (fun k => k < W.heap.size ∧ k ≠ l) W Wr := (keeps_all hbW).trans (hk.mono fun k _ h1 => h1.2)
    have hlc2 : Loc w w.heap.size 3 M Wr := (hlc.kept (keeps_all hbW) (fun _ h => .inl h)).kept (hk.mono fun k _ h1 h2 => h1 (h2 ▸ hMl)) (fun _ h => .inl h)
    have hlW := hM l hMl
    have hne := hlc.out l hMl
    have hsi := hlc.siz
    have hw0 := hk1.at hv0 ⟨by omega, by omega⟩
    have hw1 := hk1.at hv1 ⟨by omega, by omega⟩
    have hw2 := hk1.at hv2 ⟨by omega, by omega⟩
    have hxc := hk.at (heap_alloc_new W (.cells #[.int .i64 x.u, .int .i64 x.m] 51)) (by omega : W.heap.size ≠ l)
    have hxb := HSO.out x (List.mem_of_getElem? hx)
    have HTK : Hid (minOf notFull ltB (S.take (s + 1)) = stM notFull ltB (minOf notFull ltB (S.take s)) x) := minOf_take hx
    have HS1 : Hid (s + 1 ≤ S.length) := (List.getElem?_eq_some_iff.1 hx).1
    have HLc : Hid (Loc w w.heap.size 3 M Wr) := hlc2
    obtain ⟨xn, xu, xm⟩ := x
    simp only at hxc hxb HTK hsz ⊢
    obtain ⟨o, ho⟩ : ∃ o, minOf notFull ltB (S.take s) = o := ⟨_, rfl⟩
    rw [ho] at hw0 hw1 hw2 HTK
    obtain ⟨pb, hpb⟩ : ∃ pb, W.heap.size = pb := ⟨_, rfl⟩
    rw [hpb] at hxc ⊢
    have hpr : pb < Wr.heap.size := by rw [hsz]; simp [hpb]
    have hqp : w.heap.size + 3 ≤ pb := by omega
    obtain ⟨d0, d1⟩ := cells_two hxc
    have q0 : Wr.drew.cell? ⟨pb, 0, none⟩ = some (.int .i64 xu) ∧ Wr.drew.cell? ⟨pb, 1, none⟩ = some (.int .i64 xm) ∧ Wr.drew.cell? ⟨w.heap.size + 1, 0, none⟩ = some (.int .i64 (bF o)) ∧ Wr.drew.cell? ⟨w.heap.size + 2, 0, none⟩ = some (.bool (bS o)) := ⟨d0, d1, cell_of_one hw1, cell_of_one hw2⟩
    have HV : Hid (Wr.drew.heap[w.heap.size]? = some (.cells #[.int .i64 (bN o)] 3 (0, 0)) ∧ Wr.drew.heap[w.heap.size + 1]? = some (.cells #[.int .i64 (bF o)] 3 (0, 0)) ∧ Wr.drew.heap[w.heap.size + 2]? = some (.cells #[.bool (bS o)] 4 (0, 0))) := ⟨hw0, hw1, hw2⟩
    have hkX : Keeps (fun _ => True) Wr Wr.drew := keeps_below (drew_below Wr.heap.size Wr) fun _ h _ => h
    have hsX : Wr.drew.heap.size = Wr.heap.size := rfl
    obtain ⟨bf, hbf⟩ : ∃ bf, bF o = bf := ⟨_, rfl⟩
    obtain ⟨bz, hbz⟩ : ∃ bz, bS o = bz := ⟨_, rfl⟩
    rw [hbf, hbz] at q0
    clear hlc hv0 hv1 hv2 hsl hMl hl2 hM hbW hlp hk hk1 hlc2 hw0 hw1 hw2 hxc hx ho hpb d0 d1 hsz hlW hne hsi
    gi_wp2_with fail
    refine region_round_held (S := fun w' => w'.cell? ⟨pb, 0, none⟩ = some (.int .i64 xu) ∧ w'.cell? ⟨pb, 1, none⟩ = some (.int .i64 xm) ∧ w'.cell? ⟨w.heap.size + 1, 0, none⟩ = some (.int .i64 bf) ∧ w'.cell? ⟨w.heap.size + 2, 0, none⟩ = some (.bool bz))
      (by kernel_rfl) (by repeat (first | exact round_lets | refine then_lets ?_ | refine block_lets ?_)) (by kernel_rfl) q0 (fun hHeld => ?_)
    generalize Wr.drew = X at *
    clear q0
    have hHX := hHeld
    refine wpAnyH_take (i := 0) (oi := { dst := some 16, op := Op.load 51 (Operand.tmp 10), type := 51, pos := "group.go:83", after := #[], guard := none }) (v := ?v0) rfl (by kernel_rfl) (by kernel_rfl) (by kernel_rfl) (fun _ _ _ h => h) (Or.inl ⟨by rfl, ?hy0⟩) (by assumption) ?rest0
    case hy0 =>
      intro w hSw
      try dsimp only at hSw
      go_simp
      try with_reducible rfl
    try simp only [Act.put, List.setIfInBounds_toArray, List.set_cons_zero, List.set_cons_succ]
    refine wpAnyH_ready (rs := [1]) (by kernel_rfl) (by simp) ?_
    refine AllReadyH.cons (o := { dst := some 17, op := Op.call { callee := Callee.value (Operand.func 25), args := #[Operand.tmp 16], argTypes := #[51] }, type := 3, pos := "group.go:83", after := #[{ on := 0, ground := Ground.data }], guard := none }) rfl (fun KK9 hK9 => ?_) ?moreCL
    case moreCL => exact AllReadyH.nil
    go_simp
    refine (group_any xu xm X hxb).mono ?_
    rintro e6 W6 ⟨rfl, b6⟩
    go_simp
    have hs6 := b6.size
    refine hK9.out _ _ ⟨(b6.cell (p := ⟨pb, 0, none⟩) (by show pb < _; omega)).trans hHX.1, (b6.cell (p := ⟨pb, 1, none⟩) (by show pb < _; omega)).trans hHX.2.1, (b6.cell (p := ⟨w.heap.size + 1, 0, none⟩) (by show w.heap.size + 1 < _; omega)).trans hHX.2.2.1, (b6.cell (p := ⟨w.heap.size + 2, 0, none⟩) (by show w.heap.size + 2 < _; omega)).trans hHX.2.2.2⟩ (fun hHeld => ?_)
    clear hK9 KK9 hHX
    try simp only [Act.put, List.setIfInBounds_toArray, List.set_cons_zero, List.set_cons_succ]
    have k6 : Keeps (fun _ => True) X W6 := keeps_all b6
    obtain ⟨z, hz⟩ : ∃ z, ofN xu xm = z := ⟨_, rfl⟩
    rw [hz]
    by_cases hzg : z = 4
    · have hzb : (z != 4) = false := by rw [hzg]; rfl
      have HST : stM notFull ltB o ⟨xn, xu, xm⟩ = o := by
        have : notFull ⟨xn, xu, xm⟩ = false := by unfold notFull; rw [hz, hzg]; rfl
        unfold stM
        cases o <;> simp [this]
      refine wpAnyH_take (i := 2) (oi := { dst := some 18, op := Op.binOp BinOp.neq 3 (Operand.tmp 17) (Operand.const (Value.int IntKind.i64 4)) 3, type := 4, pos := "group.go:83", after := #[{ on := 1, ground := Ground.data }], guard := none }) (v := ?v2n) rfl (by kernel_rfl) (by kernel_rfl) (by kernel_rfl) (fun _ _ _ h => h) (Or.inl ⟨by rfl, ?hy2n⟩) (by assumption) ?rest2n
      case hy2n =>
        intro w hSw
        try dsimp only at hSw
        go_simp
        try with_reducible rfl
      try simp only [Act.put, List.setIfInBounds_toArray, List.set_cons_zero, List.set_cons_succ]
      refine wpAnyH_take (i := 3) (oi := { dst := some 19, op := Op.move (Operand.tmp 18), type := 4, pos := "group.go:83", after := #[{ on := 2, ground := Ground.data }, { on := 1, ground := Ground.chain }], guard := none }) (v := ?v3n) rfl (by kernel_rfl) (by kernel_rfl) (by kernel_rfl) (fun _ _ _ h => h) (Or.inl ⟨by rfl, ?hy3n⟩) (by assumption) ?rest3n
      case hy3n =>
        intro w hSw
        try dsimp only at hSw
        go_simp
        try with_reducible rfl
      try simp only [Act.put, List.setIfInBounds_toArray, List.set_cons_zero, List.set_cons_succ]
      refine wpAnyH_take (i := 4) (oi := { dst := some 20, op := Op.load 4 (Operand.tmp 8), type := 4, pos := "group.go:83", after := #[{ on := 3, ground := Ground.guard }], guard := some (3, true) }) (v := undef) rfl (by kernel_rfl) (by kernel_rfl) (by kernel_rfl) (fun _ _ _ h => h) (Or.inr ⟨by rfl, rfl⟩) (by assumption) ?rest4n
      try simp only [Act.put, List.setIfInBounds_toArray, List.set_cons_zero, List.set_cons_succ]
      refine wpAnyH_take (i := 5) (oi := { dst := some 21, op := Op.unOp UnOp.not 4 (Operand.tmp 20), type := 4, pos := "group.go:83", after := #[{ on := 4, ground := Ground.data }, { on := 3, ground := Ground.guard }], guard := some (3, true) }) (v := undef) rfl (by kernel_rfl) (by kernel_rfl) (by kernel_rfl) (fun _ _ _ h => h) (Or.inr ⟨by rfl, rfl⟩) (by assumption) ?rest5n
      try simp only [Act.put, List.setIfInBounds_toArray, List.set_cons_zero, List.set_cons_succ]
      refine wpAnyH_take (i := 6) (oi := { dst := some 22, op := Op.move (Operand.tmp 21), type := 4, pos := "group.go:83", after := #[{ on := 5, ground := Ground.data }, { on := 3, ground := Ground.chain }, { on := 3, ground := Ground.guard }], guard := some (3, true) }) (v := undef) rfl (by kernel_rfl) (by kernel_rfl) (by kernel_rfl) (fun _ _ _ h => h) (Or.inr ⟨by rfl, rfl⟩) (by assumption) ?rest6n
      try simp only [Act.put, List.setIfInBounds_toArray, List.set_cons_zero, List.set_cons_succ]
      refine wpAnyH_take (i := 7) (oi := { dst := some 23, op := Op.load 51 (Operand.tmp 10), type := 51, pos := "group.go:83", after := #[{ on := 6, ground := Ground.guard }], guard := some (6, false) }) (v := undef) rfl (by kernel_rfl) (by kernel_rfl) (by kernel_rfl) (fun _ _ _ h => h) (Or.inr ⟨by rfl, rfl⟩) (by assumption) ?rest7n
      try simp only [Act.put, List.setIfInBounds_toArray, List.set_cons_zero, List.set_cons_succ]
      refine wpAnyH_take (i := 8) (oi := { dst := some 24, op := Op.call { callee := Callee.value (Operand.func 26), args := #[Operand.tmp 23], argTypes := #[51] }, type := 3, pos := "group.go:83", after := #[{ on := 7, ground := Ground.data }, { on := 6, ground := Ground.chain }, { on := 6, ground := Ground.guard }], guard := some (6, false) }) (v := undef) rfl (by kernel_rfl) (by kernel_rfl) (by kernel_rfl) (fun _ _ _ h => h) (Or.inr ⟨by rfl, rfl⟩) (by assumption) ?rest8n
      try simp only [Act.put, List.setIfInBounds_toArray, List.set_cons_zero, List.set_cons_succ]
      refine wpAnyH_take (i := 9) (oi := { dst := some 25, op := Op.load 3 (Operand.tmp 7), type := 3, pos := "group.go:83", after := #[{ on := 6, ground := Ground.guard }], guard := some (6, false) }) (v := undef) rfl (by kernel_rfl) (by kernel_rfl) (by kernel_rfl) (fun _ _ _ h => h) (Or.inr ⟨by rfl, rfl⟩) (by assumption) ?rest9n
      try simp only [Act.put, List.setIfInBounds_toArray, List.set_cons_zero, List.set_cons_succ]
      refine wpAnyH_take (i := 10) (oi := { dst := some 26, op := Op.binOp BinOp.lss 3 (Operand.tmp 24) (Operand.tmp 25) 3, type := 4, pos := "group.go:83", after := #[{ on := 8, ground := Ground.data }, { on := 9, ground := Ground.data }, { on := 6, ground := Ground.guard }], guard := some (6, false) }) (v := undef) rfl (by kernel_rfl) (by kernel_rfl) (by kernel_rfl) (fun _ _ _ h => h) (Or.inr ⟨by rfl, rfl⟩) (by assumption) ?rest10n
      try simp only [Act.put, List.setIfInBounds_toArray, List.set_cons_zero, List.set_cons_succ]
      refine wpAnyH_take (i := 11) (oi := { dst := some 27, op := Op.pick (Operand.tmp 22) (Operand.const (Value.bool true)) (Operand.tmp 26), type := 4, pos := "group.go:83", after := #[{ on := 6, ground := Ground.data }, { on := 10, ground := Ground.data }, { on := 3, ground := Ground.guard }], guard := some (3, true) }) (v := undef) rfl (by kernel_rfl) (by kernel_rfl) (by kernel_rfl) (fun _ _ _ h => h) (Or.inr ⟨by rfl, rfl⟩) (by assumption) ?rest11n
      try simp only [Act.put, List.setIfInBounds_toArray, List.set_cons_zero, List.set_cons_succ]
      refine wpAnyH_take (i := 12) (oi := { dst := some 28, op := Op.pick (Operand.tmp 19) (Operand.tmp 27) (Operand.const (Value.bool false)), type := 4, pos := "group.go:83", after := #[{ on := 3, ground := Ground.data }, { on := 11, ground := Ground.data }], guard := none }) (v := ?v12n) rfl (by kernel_rfl) (by kernel_rfl) (by kernel_rfl) (fun _ _ _ h => h) (Or.inl ⟨by rfl, ?hy12n⟩) (by assumption) ?rest12n
      case hy12n =>
        intro w hSw
        try dsimp only at hSw
        go_simp
        try with_reducible rfl
      try simp only [Act.put, List.setIfInBounds_toArray, List.set_cons_zero, List.set_cons_succ]
      refine wpAnyH_done (by kernel_rfl) ?_ _
      have HE : Hid (roundEnd (fun _ => False) (BestI w w.heap.size S) (fun _ _ _ => False) (s + 1) M Wr .normal { tmps := #[], defers := [] } W6) := by
        refine ⟨(hkX.trans k6).mono fun i _ h5 => trivial, HLc.out.own ((hkX.trans k6).mono fun i _ h5 => trivial), ?_, ?_, ?_, HS1.out⟩
        · rw [HTK.out, HST]; exact (k6.at HV.out.1 trivial)
        · rw [HTK.out, HST]; exact (k6.at HV.out.2.1 trivial)
        · rw [HTK.out, HST]; exact (k6.at HV.out.2.2 trivial)
      clear hHeld hkX
      gi_wp2
      exact HE.out
    · have hzb : (z != 4) = true := by simp [hzg]
      have hnf : notFull ⟨xn, xu, xm⟩ = true := by unfold notFull; rw [hz, decide_eq_false hzg]; rfl
      cases o with
      | none =>
        obtain rfl : false = bz := hbz
        have HST : stM notFull ltB none ⟨xn, xu, xm⟩ = some ⟨xn, xu, xm⟩ := by simp [stM, hnf]
        refine wpAnyH_take (i := 2) (oi := { dst := some 18, op := Op.binOp BinOp.neq 3 (Operand.tmp 17) (Operand.const (Value.int IntKind.i64 4)) 3, type := 4, pos := "group.go:83", after := #[{ on := 1, ground := Ground.data }], guard := none }) (v := ?v2e) rfl (by kernel_rfl) (by kernel_rfl) (by kernel_rfl) (fun _ _ _ h => h) (Or.inl ⟨by rfl, ?hy2e⟩) (by assumption) ?rest2e
        case hy2e =>
          intro w hSw
          try dsimp only at hSw
          go_simp
          try with_reducible rfl
        try simp only [Act.put, List.setIfInBounds_toArray, List.set_cons_zero, List.set_cons_succ]
        refine wpAnyH_take (i := 3) (oi := { dst := some 19, op := Op.move (Operand.tmp 18), type := 4, pos := "group.go:83", after := #[{ on := 2, ground := Ground.data }, { on := 1, ground := Ground.chain }], guard := none }) (v := ?v3e) rfl (by kernel_rfl) (by kernel_rfl) (by kernel_rfl) (fun _ _ _ h => h) (Or.inl ⟨by rfl, ?hy3e⟩) (by assumption) ?rest3e
        case hy3e =>
          intro w hSw
          try dsimp only at hSw
          go_simp
          try with_reducible rfl
        try simp only [Act.put, List.setIfInBounds_toArray, List.set_cons_zero, List.set_cons_succ]
        refine wpAnyH_take (i := 4) (oi := { dst := some 20, op := Op.load 4 (Operand.tmp 8), type := 4, pos := "group.go:83", after := #[{ on := 3, ground := Ground.guard }], guard := some (3, true) }) (v := ?v4e) rfl (by kernel_rfl) (by kernel_rfl) (by kernel_rfl) (fun _ _ _ h => h) (Or.inl ⟨by rfl, ?hy4e⟩) (by assumption) ?rest4e
        case hy4e =>
          intro w hSw
          try dsimp only at hSw
          go_simp
          try with_reducible rfl
        try simp only [Act.put, List.setIfInBounds_toArray, List.set_cons_zero, List.set_cons_succ]
        refine wpAnyH_take (i := 5) (oi := { dst := some 21, op := Op.unOp UnOp.not 4 (Operand.tmp 20), type := 4, pos := "group.go:83", after := #[{ on := 4, ground := Ground.data }, { on := 3, ground := Ground.guard }], guard := some (3, true) }) (v := ?v5e) rfl (by kernel_rfl) (by kernel_rfl) (by kernel_rfl) (fun _ _ _ h => h) (Or.inl ⟨by rfl, ?hy5e⟩) (by assumption) ?rest5e
        case hy5e =>
          intro w hSw
          try dsimp only at hSw
          go_simp
          try with_reducible rfl
        try simp only [Act.put, List.setIfInBounds_toArray, List.set_cons_zero, List.set_cons_succ]
        refine wpAnyH_take (i := 6) (oi := { dst := some 22, op := Op.move (Operand.tmp 21), type := 4, pos := "group.go:83", after := #[{ on := 5, ground := Ground.data }, { on := 3, ground := Ground.chain }, { on := 3, ground := Ground.guard }], guard := some (3, true) }) (v := ?v6e) rfl (by kernel_rfl) (by kernel_rfl) (by kernel_rfl) (fun _ _ _ h => h) (Or.inl ⟨by rfl, ?hy6e⟩) (by assumption) ?rest6e
        case hy6e =>
          intro w hSw
          try dsimp only at hSw
          go_simp
          try with_reducible rfl
        try simp only [Act.put, List.setIfInBounds_toArray, List.set_cons_zero, List.set_cons_succ]
        refine wpAnyH_take (i := 7) (oi := { dst := some 23, op := Op.load 51 (Operand.tmp 10), type := 51, pos := "group.go:83", after := #[{ on := 6, ground := Ground.guard }], guard := some (6, false) }) (v := undef) rfl (by kernel_rfl) (by kernel_rfl) (by kernel_rfl) (fun _ _ _ h => h) (Or.inr ⟨by rfl, rfl⟩) (by assumption) ?rest7e
        try simp only [Act.put, List.setIfInBounds_toArray, List.set_cons_zero, List.set_cons_succ]
        refine wpAnyH_take (i := 8) (oi := { dst := some 24, op := Op.call { callee := Callee.value (Operand.func 26), args := #[Operand.tmp 23], argTypes := #[51] }, type := 3, pos := "group.go:83", after := #[{ on := 7, ground := Ground.data }, { on := 6, ground := Ground.chain }, { on := 6, ground := Ground.guard }], guard := some (6, false) }) (v := undef) rfl (by kernel_rfl) (by kernel_rfl) (by kernel_rfl) (fun _ _ _ h => h) (Or.inr ⟨by rfl, rfl⟩) (by assumption) ?rest8e
        try simp only [Act.put, List.setIfInBounds_toArray, List.set_cons_zero, List.set_cons_succ]
        refine wpAnyH_take (i := 9) (oi := { dst := some 25, op := Op.load 3 (Operand.tmp 7), type := 3, pos := "group.go:83", after := #[{ on := 6, ground := Ground.guard }], guard := some (6, false) }) (v := undef) rfl (by kernel_rfl) (by kernel_rfl) (by kernel_rfl) (fun _ _ _ h => h) (Or.inr ⟨by rfl, rfl⟩) (by assumption) ?rest9e
        try simp only [Act.put, List.setIfInBounds_toArray, List.set_cons_zero, List.set_cons_succ]
        refine wpAnyH_take (i := 10) (oi := { dst := some 26, op := Op.binOp BinOp.lss 3 (Operand.tmp 24) (Operand.tmp 25) 3, type := 4, pos := "group.go:83", after := #[{ on := 8, ground := Ground.data }, { on := 9, ground := Ground.data }, { on := 6, ground := Ground.guard }], guard := some (6, false) }) (v := undef) rfl (by kernel_rfl) (by kernel_rfl) (by kernel_rfl) (fun _ _ _ h => h) (Or.inr ⟨by rfl, rfl⟩) (by assumption) ?rest10e
        try simp only [Act.put, List.setIfInBounds_toArray, List.set_cons_zero, List.set_cons_succ]
        refine wpAnyH_take (i := 11) (oi := { dst := some 27, op := Op.pick (Operand.tmp 22) (Operand.const (Value.bool true)) (Operand.tmp 26), type := 4, pos := "group.go:83", after := #[{ on := 6, ground := Ground.data }, { on := 10, ground := Ground.data }, { on := 3, ground := Ground.guard }], guard := some (3, true) }) (v := ?v11e) rfl (by kernel_rfl) (by kernel_rfl) (by kernel_rfl) (fun _ _ _ h => h) (Or.inl ⟨by rfl, ?hy11e⟩) (by assumption) ?rest11e
        case hy11e =>
          intro w hSw
          try dsimp only at hSw
          go_simp
          try with_reducible rfl
        try simp only [Act.put, List.setIfInBounds_toArray, List.set_cons_zero, List.set_cons_succ]
        refine wpAnyH_take (i := 12) (oi := { dst := some 28, op := Op.pick (Operand.tmp 19) (Operand.tmp 27) (Operand.const (Value.bool false)), type := 4, pos := "group.go:83", after := #[{ on := 3, ground := Ground.data }, { on := 11, ground := Ground.data }], guard := none }) (v := ?v12e) rfl (by kernel_rfl) (by kernel_rfl) (by kernel_rfl) (fun _ _ _ h => h) (Or.inl ⟨by rfl, ?hy12e⟩) (by assumption) ?rest12e
        case hy12e =>
          intro w hSw
          try dsimp only at hSw
          go_simp
          try with_reducible rfl
        try simp only [Act.put, List.setIfInBounds_toArray, List.set_cons_zero, List.set_cons_succ]
        refine wpAnyH_done (by kernel_rfl) ?_ _
        have HSY : Hid (stM notFull ltB none ⟨xn, xu, xm⟩ = some ⟨xn, xu, xm⟩) := HST
        have v6 : W6.heap[w.heap.size]? = some (.cells #[.int .i64 (bN none)] 3 (0, 0)) ∧ W6.heap[w.heap.size + 1]? = some (.cells #[.int .i64 (bF none)] 3 (0, 0)) ∧ W6.heap[w.heap.size + 2]? = some (.cells #[.bool (bS none)] 4 (0, 0)) :=
          ⟨k6.at HV.out.1 trivial, k6.at HV.out.2.1 trivial, k6.at HV.out.2.2 trivial⟩
        have e0 := hHeld.1
        have e1 := hHeld.2.1
        have hsW6 := k6.size
        have HFR : Hid _ := free_any xu xm W6 hxb
        clear HST hHeld
        gi_wp2_with fail
        refine ⟨trivial, fun h => (by cases h), CallsIn.mono (CallsIn.inRound l (callsIn_wide.2 HFR.out)) ?_⟩
        rintro e7 W7 ⟨rfl, b7⟩
        have hs7 := b7.size
        have r0 := (b7.block _ (by omega)).trans v6.1
        have r1 := (b7.block _ (by omega)).trans v6.2.1
        have r2 := (b7.block _ (by omega)).trans v6.2.2
        have f0 := free_of_one r0
        have f1 := free_of_one r1
        have f2 := free_of_one r2
        have g0 := cell_of_one r0
        have g1 := cell_of_one r1
        have g2 := cell_of_one r2
        have HE : Hid (roundEnd (fun _ => False) (BestI w w.heap.size S) (fun _ _ _ => False) (s + 1) M Wr .normal { tmps := #[], defers := [] } (((W7.setCell ⟨w.heap.size, 0, none⟩ (.int .i64 xn)).setCell ⟨w.heap.size + 1, 0, none⟩ (.int .i64 (xm - xu))).setCell ⟨w.heap.size + 2, 0, none⟩ (.bool true))) := by
          have k1 := setCell_keeps W7 w.heap.size (.int .i64 xn)
          have k2 := setCell_keeps (W7.setCell ⟨w.heap.size, 0, none⟩ (.int .i64 xn)) (w.heap.size + 1) (.int .i64 (xm - xu))
          have k3 := setCell_keeps ((W7.setCell ⟨w.heap.size, 0, none⟩ (.int .i64 xn)).setCell ⟨w.heap.size + 1, 0, none⟩ (.int .i64 (xm - xu))) (w.heap.size + 2) (.bool true)
          have s0 := one_setCell (u := .int .i64 xn) r0
          have s1 := one_setCell (u := .int .i64 (xm - xu)) (k1.at r1 (by omega))
          have s2 := one_setCell (u := .bool true) (k2.at (k1.at r2 (by omega)) (by omega))
          have kk : Keeps (fun i => i < w.heap.size ∨ w.heap.size + 3 ≤ i) Wr (((W7.setCell ⟨w.heap.size, 0, none⟩ (.int .i64 xn)).setCell ⟨w.heap.size + 1, 0, none⟩ (.int .i64 (xm - xu))).setCell ⟨w.heap.size + 2, 0, none⟩ (.bool true)) :=
            ((hkX.trans k6).mono fun _ _ _ => trivial).trans ((keeps_all b7).trans ((k1.mono fun i _ h5 => by omega).trans ((k2.mono fun i _ h5 => by omega).trans (k3.mono fun i _ h5 => by omega))))
          refine ⟨kk.mono fun i _ h5 => ?_, HLc.out.own (kk.mono fun i _ h5 => .inl h5), ?_, ?_, ?_, HS1.out⟩
          · rcases h5 with h5 | h5
            · exact h5.elim
            · exact .inr (HLc.out.out i h5)
          · rw [HTK.out, HSY.out]; exact k3.at (k2.at s0 (by omega)) (by omega)
          · rw [HTK.out, HSY.out]; exact k3.at s1 (by omega)
          · rw [HTK.out, HSY.out]; exact s2
        clear v6 hkX r0 r1 r2 b7
        gi_wp2
        exact HE.out
      | some b =>
        obtain rfl : true = bz := hbz
        refine wpAnyH_take (i := 2) (oi := { dst := some 18, op := Op.binOp BinOp.neq 3 (Operand.tmp 17) (Operand.const (Value.int IntKind.i64 4)) 3, type := 4, pos := "group.go:83", after := #[{ on := 1, ground := Ground.data }], guard := none }) (v := ?v2s) rfl (by kernel_rfl) (by kernel_rfl) (by kernel_rfl) (fun _ _ _ h => h) (Or.inl ⟨by rfl, ?hy2s⟩) (by assumption) ?rest2s
        case hy2s =>
          intro w hSw
          try dsimp only at hSw
          go_simp
          try with_reducible rfl
        try simp only [Act.put, List.setIfInBounds_toArray, List.set_cons_zero, List.set_cons_succ]
        refine wpAnyH_take (i := 3) (oi := { dst := some 19, op := Op.move (Operand.tmp 18), type := 4, pos := "group.go:83", after := #[{ on := 2, ground := Ground.data }, { on := 1, ground := Ground.chain }], guard := none }) (v := ?v3s) rfl (by kernel_rfl) (by kernel_rfl) (by kernel_rfl) (fun _ _ _ h => h) (Or.inl ⟨by rfl, ?hy3s⟩) (by assumption) ?rest3s
        case hy3s =>
          intro w hSw
          try dsimp only at hSw
          go_simp
          try with_reducible rfl
        try simp only [Act.put, List.setIfInBounds_toArray, List.set_cons_zero, List.set_cons_succ]
        refine wpAnyH_take (i := 4) (oi := { dst := some 20, op := Op.load 4 (Operand.tmp 8), type := 4, pos := "group.go:83", after := #[{ on := 3, ground := Ground.guard }], guard := some (3, true) }) (v := ?v4s) rfl (by kernel_rfl) (by kernel_rfl) (by kernel_rfl) (fun _ _ _ h => h) (Or.inl ⟨by rfl, ?hy4s⟩) (by assumption) ?rest4s
        case hy4s =>
          intro w hSw
          try dsimp only at hSw
          go_simp
          try with_reducible rfl
        try simp only [Act.put, List.setIfInBounds_toArray, List.set_cons_zero, List.set_cons_succ]
        refine wpAnyH_take (i := 5) (oi := { dst := some 21, op := Op.unOp UnOp.not 4 (Operand.tmp 20), type := 4, pos := "group.go:83", after := #[{ on := 4, ground := Ground.data }, { on := 3, ground := Ground.guard }], guard := some (3, true) }) (v := ?v5s) rfl (by kernel_rfl) (by kernel_rfl) (by kernel_rfl) (fun _ _ _ h => h) (Or.inl ⟨by rfl, ?hy5s⟩) (by assumption) ?rest5s
        case hy5s =>
          intro w hSw
          try dsimp only at hSw
          go_simp
          try with_reducible rfl
        try simp only [Act.put, List.setIfInBounds_toArray, List.set_cons_zero, List.set_cons_succ]
        refine wpAnyH_take (i := 6) (oi := { dst := some 22, op := Op.move (Operand.tmp 21), type := 4, pos := "group.go:83", after := #[{ on := 5, ground := Ground.data }, { on := 3, ground := Ground.chain }, { on := 3, ground := Ground.guard }], guard := some (3, true) }) (v := ?v6s) rfl (by kernel_rfl) (by kernel_rfl) (by kernel_rfl) (fun _ _ _ h => h) (Or.inl ⟨by rfl, ?hy6s⟩) (by assumption) ?rest6s
        case hy6s =>
          intro w hSw
          try dsimp only at hSw
          go_simp
          try with_reducible rfl
        try simp only [Act.put, List.setIfInBounds_toArray, List.set_cons_zero, List.set_cons_succ]
        refine wpAnyH_take (i := 7) (oi := { dst := some 23, op := Op.load 51 (Operand.tmp 10), type := 51, pos := "group.go:83", after := #[{ on := 6, ground := Ground.guard }], guard := some (6, false) }) (v := ?v7s) rfl (by kernel_rfl) (by kernel_rfl) (by kernel_rfl) (fun _ _ _ h => h) (Or.inl ⟨by rfl, ?hy7s⟩) (by assumption) ?rest7s
        case hy7s =>
          intro w hSw
          try dsimp only at hSw
          go_simp
          try with_reducible rfl
        try simp only [Act.put, List.setIfInBounds_toArray, List.set_cons_zero, List.set_cons_succ]
        refine wpAnyH_take (i := 9) (oi := { dst := some 25, op := Op.load 3 (Operand.tmp 7), type := 3, pos := "group.go:83", after := #[{ on := 6, ground := Ground.guard }], guard := some (6, false) }) (v := ?v9s) rfl (by kernel_rfl) (by kernel_rfl) (by kernel_rfl) (fun _ _ _ h => h) (Or.inl ⟨by rfl, ?hy9s⟩) (by assumption) ?rest9s
        case hy9s =>
          intro w hSw
          try dsimp only at hSw
          go_simp
          try with_reducible rfl
        try simp only [Act.put, List.setIfInBounds_toArray, List.set_cons_zero, List.set_cons_succ]
        have hHX := hHeld
        refine wpAnyH_ready (rs := [8]) (by kernel_rfl) (by simp) ?_
        refine AllReadyH.cons (o := { dst := some 24, op := Op.call { callee := Callee.value (Operand.func 26), args := #[Operand.tmp 23], argTypes := #[51] }, type := 3, pos := "group.go:83", after := #[{ on := 7, ground := Ground.data }, { on := 6, ground := Ground.chain }, { on := 6, ground := Ground.guard }], guard := some (6, false) }) rfl (fun KK9 hK9 => ?_) ?moreCM
        case moreCM => exact AllReadyH.nil
        go_simp
        refine (free_any xu xm W6 hxb).mono ?_
        rintro e8 W8 ⟨rfl, b8⟩
        go_simp
        have hs8 := b8.size
        refine hK9.out _ _ ⟨(b8.cell (p := ⟨pb, 0, none⟩) (by show pb < _; omega)).trans hHX.1, (b8.cell (p := ⟨pb, 1, none⟩) (by show pb < _; omega)).trans hHX.2.1, (b8.cell (p := ⟨w.heap.size + 1, 0, none⟩) (by show w.heap.size + 1 < _; omega)).trans hHX.2.2.1, (b8.cell (p := ⟨w.heap.size + 2, 0, none⟩) (by show w.heap.size + 2 < _; omega)).trans hHX.2.2.2⟩ (fun hHeld => ?_)
        clear hK9 KK9 hHX
        try simp only [Act.put, List.setIfInBounds_toArray, List.set_cons_zero, List.set_cons_succ]
        have k8 : Keeps (fun _ => True) X W8 := k6.trans (keeps_all b8)
        have hbf2 : free b = bf := hbf
        by_cases hlt : xm - xu < bf
        · have HST : stM notFull ltB (some b) ⟨xn, xu, xm⟩ = some ⟨xn, xu, xm⟩ := by
            have : ltB ⟨xn, xu, xm⟩ b = true := by unfold ltB; rw [hbf2]; exact decide_eq_true hlt
            simp [stM, hnf, this]
          refine wpAnyH_take (i := 10) (oi := { dst := some 26, op := Op.binOp BinOp.lss 3 (Operand.tmp 24) (Operand.tmp 25) 3, type := 4, pos := "group.go:83", after := #[{ on := 8, ground := Ground.data }, { on := 9, ground := Ground.data }, { on := 6, ground := Ground.guard }], guard := some (6, false) }) (v := ?v10y) rfl (by kernel_rfl) (by kernel_rfl) (by kernel_rfl) (fun _ _ _ h => h) (Or.inl ⟨by rfl, ?hy10y⟩) (by assumption) ?rest10y
          case hy10y =>
            intro w hSw
            try dsimp only at hSw
            go_simp
            try with_reducible rfl
          try simp only [Act.put, List.setIfInBounds_toArray, List.set_cons_zero, List.set_cons_succ]
          refine wpAnyH_take (i := 11) (oi := { dst := some 27, op := Op.pick (Operand.tmp 22) (Operand.const (Value.bool true)) (Operand.tmp 26), type := 4, pos := "group.go:83", after := #[{ on := 6, ground := Ground.data }, { on := 10, ground := Ground.data }, { on := 3, ground := Ground.guard }], guard := some (3, true) }) (v := ?v11y) rfl (by kernel_rfl) (by kernel_rfl) (by kernel_rfl) (fun _ _ _ h => h) (Or.inl ⟨by rfl, ?hy11y⟩) (by assumption) ?rest11y
          case hy11y =>
            intro w hSw
            try dsimp only at hSw
            go_simp
            try with_reducible rfl
          try simp only [Act.put, List.setIfInBounds_toArray, List.set_cons_zero, List.set_cons_succ]
          refine wpAnyH_take (i := 12) (oi := { dst := some 28, op := Op.pick (Operand.tmp 19) (Operand.tmp 27) (Operand.const (Value.bool false)), type := 4, pos := "group.go:83", after := #[{ on := 3, ground := Ground.data }, { on := 11, ground := Ground.data }], guard := none }) (v := ?v12y) rfl (by kernel_rfl) (by kernel_rfl) (by kernel_rfl) (fun _ _ _ h => h) (Or.inl ⟨by rfl, ?hy12y⟩) (by assumption) ?rest12y
          case hy12y =>
            intro w hSw
            try dsimp only at hSw
            go_simp
            try with_reducible rfl
          try simp only [Act.put, List.setIfInBounds_toArray, List.set_cons_zero, List.set_cons_succ]
          refine wpAnyH_done (by kernel_rfl) ?_ _
          have HSY : Hid (stM notFull ltB (some b) ⟨xn, xu, xm⟩ = some ⟨xn, xu, xm⟩) := HST
          have v6 : W8.heap[w.heap.size]? = some (.cells #[.int .i64 (bN (some b))] 3 (0, 0)) ∧ W8.heap[w.heap.size + 1]? = some (.cells #[.int .i64 (bF (some b))] 3 (0, 0)) ∧ W8.heap[w.heap.size + 2]? = some (.cells #[.bool (bS (some b))] 4 (0, 0)) :=
            ⟨k8.at HV.out.1 trivial, k8.at HV.out.2.1 trivial, k8.at HV.out.2.2 trivial⟩
          have e0 := hHeld.1
          have e1 := hHeld.2.1
          have hsW8 := k8.size
          have HFR : Hid _ := free_any xu xm W8 hxb
          clear HST hHeld
          gi_wp2_with fail
          refine ⟨trivial, fun h => (by cases h), CallsIn.mono (CallsIn.inRound l (callsIn_wide.2 HFR.out)) ?_⟩
          rintro e7 W7 ⟨rfl, b7⟩
          have hs7 := b7.size
          have r0 := (b7.block _ (by omega)).trans v6.1
          have r1 := (b7.block _ (by omega)).trans v6.2.1
          have r2 := (b7.block _ (by omega)).trans v6.2.2
          have f0 := free_of_one r0
          have f1 := free_of_one r1
          have f2 := free_of_one r2
          have g0 := cell_of_one r0
          have g1 := cell_of_one r1
          have g2 := cell_of_one r2
          have HE : Hid (roundEnd (fun _ => False) (BestI w w.heap.size S) (fun _ _ _ => False) (s + 1) M Wr .normal { tmps := #[], defers := [] } (((W7.setCell ⟨w.heap.size, 0, none⟩ (.int .i64 xn)).setCell ⟨w.heap.size + 1, 0, none⟩ (.int .i64 (xm - xu))).setCell ⟨w.heap.size + 2, 0, none⟩ (.bool true))) := by
            have k1 := setCell_keeps W7 w.heap.size (.int .i64 xn)
            have k2 := setCell_keeps (W7.setCell ⟨w.heap.size, 0, none⟩ (.int .i64 xn)) (w.heap.size + 1) (.int .i64 (xm - xu))
            have k3 := setCell_keeps ((W7.setCell ⟨w.heap.size, 0, none⟩ (.int .i64 xn)).setCell ⟨w.heap.size + 1, 0, none⟩ (.int .i64 (xm - xu))) (w.heap.size + 2) (.bool true)
            have s0 := one_setCell (u := .int .i64 xn) r0
            have s1 := one_setCell (u := .int .i64 (xm - xu)) (k1.at r1 (by omega))
            have s2 := one_setCell (u := .bool true) (k2.at (k1.at r2 (by omega)) (by omega))
            have kk : Keeps (fun i => i < w.heap.size ∨ w.heap.size + 3 ≤ i) Wr (((W7.setCell ⟨w.heap.size, 0, none⟩ (.int .i64 xn)).setCell ⟨w.heap.size + 1, 0, none⟩ (.int .i64 (xm - xu))).setCell ⟨w.heap.size + 2, 0, none⟩ (.bool true)) :=
              ((hkX.trans k8).mono fun _ _ _ => trivial).trans ((keeps_all b7).trans ((k1.mono fun i _ h5 => by omega).trans ((k2.mono fun i _ h5 => by omega).trans (k3.mono fun i _ h5 => by omega))))
            refine ⟨kk.mono fun i _ h5 => ?_, HLc.out.own (kk.mono fun i _ h5 => .inl h5), ?_, ?_, ?_, HS1.out⟩
            · rcases h5 with h5 | h5
              · exact h5.elim
              · exact .inr (HLc.out.out i h5)
            · rw [HTK.out, HSY.out]; exact k3.at (k2.at s0 (by omega)) (by omega)
            · rw [HTK.out, HSY.out]; exact k3.at s1 (by omega)
            · rw [HTK.out, HSY.out]; exact s2
          clear v6 hkX r0 r1 r2 b7
          gi_wp2
          exact HE.out
        · have HST : stM notFull ltB (some b) ⟨xn, xu, xm⟩ = some b := by
            have : ltB ⟨xn, xu, xm⟩ b = false := by unfold ltB; rw [hbf2]; exact decide_eq_false hlt
            simp [stM, this]
          refine wpAnyH_take (i := 10) (oi := { dst := some 26, op := Op.binOp BinOp.lss 3 (Operand.tmp 24) (Operand.tmp 25) 3, type := 4, pos := "group.go:83", after := #[{ on := 8, ground := Ground.data }, { on := 9, ground := Ground.data }, { on := 6, ground := Ground.guard }], guard := some (6, false) }) (v := ?v10z) rfl (by kernel_rfl) (by kernel_rfl) (by kernel_rfl) (fun _ _ _ h => h) (Or.inl ⟨by rfl, ?hy10z⟩) (by assumption) ?rest10z
          case hy10z =>
            intro w hSw
            try dsimp only at hSw
            go_simp
            try with_reducible rfl
          try simp only [Act.put, List.setIfInBounds_toArray, List.set_cons_zero, List.set_cons_succ]
          refine wpAnyH_take (i := 11) (oi := { dst := some 27, op := Op.pick (Operand.tmp 22) (Operand.const (Value.bool true)) (Operand.tmp 26), type := 4, pos := "group.go:83", after := #[{ on := 6, ground := Ground.data }, { on := 10, ground := Ground.data }, { on := 3, ground := Ground.guard }], guard := some (3, true) }) (v := ?v11z) rfl (by kernel_rfl) (by kernel_rfl) (by kernel_rfl) (fun _ _ _ h => h) (Or.inl ⟨by rfl, ?hy11z⟩) (by assumption) ?rest11z
          case hy11z =>
            intro w hSw
            try dsimp only at hSw
            go_simp
            try with_reducible rfl
          try simp only [Act.put, List.setIfInBounds_toArray, List.set_cons_zero, List.set_cons_succ]
          refine wpAnyH_take (i := 12) (oi := { dst := some 28, op := Op.pick (Operand.tmp 19) (Operand.tmp 27) (Operand.const (Value.bool false)), type := 4, pos := "group.go:83", after := #[{ on := 3, ground := Ground.data }, { on := 11, ground := Ground.data }], guard := none }) (v := ?v12z) rfl (by kernel_rfl) (by kernel_rfl) (by kernel_rfl) (fun _ _ _ h => h) (Or.inl ⟨by rfl, ?hy12z⟩) (by assumption) ?rest12z
          case hy12z =>
            intro w hSw
            try dsimp only at hSw
            go_simp
            try with_reducible rfl
          try simp only [Act.put, List.setIfInBounds_toArray, List.set_cons_zero, List.set_cons_succ]
          refine wpAnyH_done (by kernel_rfl) ?_ _
          have HE : Hid (roundEnd (fun _ => False) (BestI w w.heap.size S) (fun _ _ _ => False) (s + 1) M Wr .normal { tmps := #[], defers := [] } W8) := by
            refine ⟨(hkX.trans k8).mono fun i _ h5 => trivial, HLc.out.own ((hkX.trans k8).mono fun i _ h5 => trivial), ?_, ?_, ?_, HS1.out⟩
            · rw [HTK.out, HST]; exact (k8.at HV.out.1 trivial)
            · rw [HTK.out, HST]; exact (k8.at HV.out.2.1 trivial)
            · rw [HTK.out, HST]; exact (k8.at HV.out.2.2 trivial)
          clear hHeld hkX
          gi_wp2
          exact HE.out
  case done =>
    rintro D s M W hD hdone hMD ⟨hlc, hv0, _, hv2, _⟩ hK
    have e : S.take s = S := List.take_of_length_le (by omega)
    rw [e, HEND.out] at hv0 hv2
    have c0 := cell_of_one hv0
    have c2 := cell_of_one hv2
    have hbel := hlc.bel
    have hsiz := hlc.siz
    have hout := hlc.out D hMD
    obtain ⟨A, hA⟩ : ∃ A, bN (bestD (butG L bs)) = A := ⟨_, rfl⟩
    obtain ⟨Z, hZ⟩ : ∃ Z, bS (bestD (butG L bs)) = Z := ⟨_, rfl⟩
    rw [hA] at c0
    rw [hZ] at c2
    have HA : Hid (bN (bestD (butG L bs)) = A) := hA
    have HZ : Hid (bS (bestD (butG L bs)) = Z) := hZ
    clear hA hZ
    clear hlc hv0 hv2 hdone
    gi_wp2_with fail
    gi_region
    gi_wp2
    refine ⟨by simp, .inl ⟨D, _, rfl, run_takeDeferred (w := W.drew) hK, ?_⟩⟩
    have hp := keeps_put W.drew D (.deferred none)
    rw [HA.out, HZ.out]
    exact ⟨_, results_tmp2 Try.results10 _ _ _, rfl, hbel.trans ((drew_below _ W).trans (hp.below (fun i h5 => by omega) (by show w.heap.size ≤ W.heap.size; omega)))⟩
  case stop =>
    rintro D k M W _ _ _ h _
    exact h.elim
end Go.Proofs.Ythjacjckobkhmaa
