/- The walk of Count. -/
import Derived.Test.YthjacjckobkhmaaURoom
namespace Go.Proofs.Ythjacjckobkhmaa
open Go.RowKit
attribute [local go_sem] Oper.semAt_some

def CountI (w : World) (q : Nat) (g : Int) (S : List Gh) (s : Nat) (M : Nat → Prop) (W : World) : Prop :=
  Loc w q 2 M W ∧ W.heap[q]? = some (.cells #[.int .i64 g] 3 (0, 0)) ∧ W.heap[q + 1]? = some (.cells #[.int .i64 (cntG g (S.take s) : Nat)] 3 (0, 0)) ∧ s ≤ S.length
theorem count_abides (w : World) (q : Nat) (g : Int) (S : List Gh) : Abides (CountI w q g S) := by
  rintro s M M' W W' ⟨h1, h2, h4, h3⟩ hk hM
  exact ⟨h1.kept hk hM, hk.at h2 (h1.no (by omega)), hk.at h4 (h1.no (by omega)), h3⟩
set_option maxRecDepth 100000 in
set_option maxHeartbeats 1000000 in
theorem gCount_any {v : Value} {L : List Gh} (g : Int) (w : World) (hbk : BookP w v L) (hG : Gok L) (hL : L.length ≤ 100) :
    Calls Try.prog 15 #[v, .int .i64 g] w fun e w' => e = .returned (.int .i64 (cntG g L : Nat)) ∧ Below w.heap.size w w' := by
  have hv : v = .pointer none ∨ ∃ r : Nat, v = .pointer (some ⟨r, 0, none⟩) := by
    rcases hbk with ⟨h, _⟩ | ⟨r, _, h, _⟩
    · exact .inl h
    · exact .inr ⟨r, h⟩
  obtain ⟨W1, hW1⟩ : ∃ W1, W1 = (w.alloc (.cells #[.int .i64 g] 3)).alloc (.cells #[.int .i64 0] 3) := ⟨_, rfl⟩
  have hb1 : Below w.heap.size w W1 := by rw [hW1]; exact ((Below.refl _ w).alloc (Nat.le_refl _) _).alloc (by simp) _
  have hs1 : W1.heap.size = w.heap.size + 2 := by rw [hW1]; simp
  have r1 : W1.heap[w.heap.size]? = some (.cells #[.int .i64 g] 3 (0, 0)) := by rw [hW1, Below.heap_alloc _ _ _ (by simp)]; exact heap_alloc_new w _
  have r2 : W1.heap[w.heap.size + 1]? = some (.cells #[.int .i64 0] 3 (0, 0)) := by
    have := heap_alloc_new (w.alloc (.cells #[.int .i64 g] 3)) (.cells #[.int .i64 0] 3)
    rw [World.size_alloc] at this
    rw [hW1]; exact this
  have HO : Hid _ := others_any v none 0 0 W1 hv
  refine (callsIn_wide (n := 3)).1 ?_
  refine callsIn_of_wp_marks Try.func15 rfl trivial ?_ rfl
  simp only [Try.ntmps15, List.size_toArray, List.length_cons, List.length_nil, Nat.reduceAdd, Nat.reduceSub, Array.replicate_succ, Array.replicate_zero, List.push_toArray, List.append_toArray, List.nil_append, List.cons_append]
  gi_wp2_with fail
  rw [← hW1]
  clear hW1
  refine ⟨trivial, CallsIn.mono (callsIn_wide.2 HO.out) ?_⟩
  rintro e W0 ⟨rfl, hc, hb0, hs0⟩
  rw [hs1] at hc hb0 hs0 ⊢
  have hbw : Below w.heap.size w W0 := hb1.trans (hb0.mono (by omega))
  have hbk0 := hbk.below hbw
  have r10 := (hb0.block _ (by omega)).trans r1
  have r20 := (hb0.block _ (by omega)).trans r2
  obtain ⟨S, hS⟩ : ∃ S, srt L = S := ⟨_, rfl⟩
  have hit := others_iter (bs := []) (K0 := fun _ => False) W0 hc hbk0 hG (.inl rfl) (fun _ h => (by cases h)) (by simp) hL
  rw [butG_nil, hS] at hit
  have hSo : ∀ x ∈ S, 0 ≤ x.u ∧ x.u ≤ x.m ∧ x.m ≤ 100000000 := by
    intro x hx
    rw [← hS, (srt_perm _).mem_iff] at hx
    have := hG.ok x hx
    omega
  have hSl : S.length ≤ 100 := by
    rw [← hS, (srt_perm _).length_eq]
    exact hL
  have HEND : Hid (cntG g S = cntG g L) := by show _ = _; rw [← hS, cntG_srt]
  have HSO : Hid (∀ x ∈ S, 0 ≤ x.u ∧ x.u ≤ x.m ∧ x.m ≤ 100000000) := hSo
  clear hS hc hbk hbk0 hSo HO hb1 hb0 r1 r2 hv
  gi_wp2_with fail
  refine range_wp (gf := 27) (lb := uLb (w.heap.size + 2)) rfl (enters_of Try.func27 (by kernel_rfl) rfl)
    hit (fun i hi => hi.elim) (fun _ => rfl) (CountI w w.heap.size g S) (fun _ _ _ => False) (count_abides w w.heap.size g S) (fun _ _ _ _ _ h _ _ => h)
    ⟨⟨hbw, by omega, fun _ h => h.elim⟩, r10, by rw [List.take_zero]; exact r20, by omega⟩
    (fun x W a1 W1 => W1 = W.alloc (.cells #[.int .i64 x.u, .int .i64 x.m] 51) ∧ a1 = { tmps := #[v, .int .i64 g, undef, .pointer (some ⟨w.heap.size, 0, none⟩), .int .i64 0, .pointer (some ⟨w.heap.size + 1, 0, none⟩), undef, .pointer (some ⟨W.heap.size, 0, none⟩), v, .func (.func 27) #[] (uLb (w.heap.size + 2)), .int .i64 x.n, .agg #[.int .i64 x.u, .int .i64 x.m], undef, undef, undef, undef, undef, undef, undef], defers := [] }) ?assign ?body ?done ?stop
  case assign =>
    intro m l x W K hK
    obtain ⟨xn, xu, xm⟩ := x
    unfold ghV
    gi_wp2
    exact hK _ _ ((Below.refl _ W).alloc (Nat.le_refl _) _) ⟨rfl, rfl⟩
  case body =>
    rintro m l s M x W a1 W1 Wr ⟨hlc, hgv, hrv, hsl⟩ hx hMl hl2 hM hbW ⟨rfl, rfl⟩ hlp hk hsz
    have hk1 : Keeps (fun k => k < W.heap.size ∧ k ≠ l) W Wr := (keeps_all hbW).trans (hk.mono fun k _ h1 => h1.2)
    have hlc2 : Loc w w.heap.size 2 M Wr := (hlc.kept (keeps_all hbW) (fun _ h => .inl h)).kept (hk.mono fun k _ h1 h2 => h1 (h2 ▸ hMl)) (fun _ h => .inl h)
    have hlW := hM l hMl
    have hne := hlc.out l hMl
    have hsi := hlc.siz
    have hrv2 := hk1.at hrv ⟨by omega, by omega⟩
    have hgv2 := hk1.at hgv ⟨by omega, by omega⟩
    have hxc := hk.at (heap_alloc_new W (.cells #[.int .i64 x.u, .int .i64 x.m] 51)) (by omega : W.heap.size ≠ l)
    have hxb := HSO.out x (List.mem_of_getElem? hx)
    have HTK : Hid (cntG g (S.take (s + 1)) = cntG g (S.take s) + (if ofN x.u x.m = g then 1 else 0)) := cntG_take g hx
    have hls : cntG g (S.take s) ≤ 100 := Nat.le_trans (cntG_le g _) (by rw [List.length_take]; omega)
    have HS1 : Hid (s + 1 ≤ S.length) := (List.getElem?_eq_some_iff.1 hx).1
    have HLc : Hid (Loc w w.heap.size 2 M Wr) := hlc2
    obtain ⟨xn, xu, xm⟩ := x
    simp only at hxc hxb HTK hsz ⊢
    obtain ⟨R, hR⟩ : ∃ R, cntG g (S.take s) = R := ⟨_, rfl⟩
    rw [hR] at hrv2 hls HTK
    obtain ⟨pb, hpb⟩ : ∃ pb, W.heap.size = pb := ⟨_, rfl⟩
    rw [hpb] at hxc ⊢
    have hpr : pb < Wr.heap.size := by rw [hsz]; simp [hpb]
    have hqp : w.heap.size + 2 ≤ pb := by omega
    obtain ⟨d0, d1⟩ := cells_two hxc
    have q0 : Wr.drew.cell? ⟨pb, 0, none⟩ = some (.int .i64 xu) ∧ Wr.drew.cell? ⟨pb, 1, none⟩ = some (.int .i64 xm) ∧ Wr.drew.cell? ⟨w.heap.size, 0, none⟩ = some (.int .i64 g) := ⟨d0, d1, cell_of_one hgv2⟩
    have HRX : Hid (Wr.drew.heap[w.heap.size + 1]? = some (.cells #[.int .i64 (R : Nat)] 3 (0, 0))) := hrv2
    have HGX : Hid (Wr.drew.heap[w.heap.size]? = some (.cells #[.int .i64 g] 3 (0, 0))) := hgv2
    have hkX : Keeps (fun _ => True) Wr Wr.drew := keeps_below (drew_below Wr.heap.size Wr) fun _ h _ => h
    have hsX : Wr.drew.heap.size = Wr.heap.size := rfl
    clear hlc hrv hgv hsl hMl hl2 hM hbW hlp hk hk1 hlc2 hrv2 hgv2 hxc hx hR hpb d0 d1 hsz hlW hne hsi
    gi_wp2_with fail
    refine region_round_held (S := fun w' => w'.cell? ⟨pb, 0, none⟩ = some (.int .i64 xu) ∧ w'.cell? ⟨pb, 1, none⟩ = some (.int .i64 xm) ∧ w'.cell? ⟨w.heap.size, 0, none⟩ = some (.int .i64 g))
      (by kernel_rfl) (by repeat (first | exact round_lets | refine then_lets ?_ | refine block_lets ?_)) (by kernel_rfl) q0 (fun hHeld => ?_)
    generalize Wr.drew = X at *
    clear q0
    refine wpAnyH_take (i := 0) (oi := { dst := some 12, op := Op.load 51 (Operand.tmp 7), type := 51, pos := "group.go:115", after := #[], guard := none }) (v := ?v0) rfl (by kernel_rfl) (by kernel_rfl) (by kernel_rfl) (fun _ _ _ h => h) (Or.inl ⟨by rfl, ?hy0⟩) (by assumption) ?rest0
    case hy0 =>
      intro w hSw
      try dsimp only at hSw
      go_simp
      try with_reducible rfl
    try simp only [Act.put, List.setIfInBounds_toArray, List.set_cons_zero, List.set_cons_succ]
    refine wpAnyH_take (i := 2) (oi := { dst := some 14, op := Op.load 3 (Operand.tmp 3), type := 3, pos := "group.go:115", after := #[], guard := none }) (v := ?v2) rfl (by kernel_rfl) (by kernel_rfl) (by kernel_rfl) (fun _ _ _ h => h) (Or.inl ⟨by rfl, ?hy2⟩) (by assumption) ?rest2
    case hy2 =>
      intro w hSw
      try dsimp only at hSw
      go_simp
      try with_reducible rfl
    try simp only [Act.put, List.setIfInBounds_toArray, List.set_cons_zero, List.set_cons_succ]
    refine wpAnyH_ready (rs := [1]) (by kernel_rfl) (by simp) ?_
    refine AllReadyH.cons (o := { dst := some 13, op := Op.call { callee := Callee.value (Operand.func 25), args := #[Operand.tmp 12], argTypes := #[51] }, type := 3, pos := "group.go:115", after := #[{ on := 0, ground := Ground.data }], guard := none }) rfl (fun KK9 hK9 => ?_) ?moreCL
    case moreCL => exact AllReadyH.nil
    go_simp
    refine (group_any xu xm X hxb).mono ?_
    rintro e6 W6 ⟨rfl, b6⟩
    go_simp
    have hs6 := b6.size
    have r6 : W6.heap[w.heap.size + 1]? = some (.cells #[.int .i64 (R : Nat)] 3 (0, 0)) := (b6.block _ (by omega)).trans HRX.out
    have g6 : W6.heap[w.heap.size]? = some (.cells #[.int .i64 g] 3 (0, 0)) := (b6.block _ (by omega)).trans HGX.out
    refine hK9.out _ _ ⟨(b6.cell (p := ⟨pb, 0, none⟩) (by show pb < _; omega)).trans hHeld.1, (b6.cell (p := ⟨pb, 1, none⟩) (by show pb < _; omega)).trans hHeld.2.1, cell_of_one g6⟩ (fun hHeld => ?_)
    clear hK9 KK9
    try simp only [Act.put, List.setIfInBounds_toArray, List.set_cons_zero, List.set_cons_succ]
    have k6 : Keeps (fun _ => True) Wr W6 := hkX.trans (keeps_all b6)
    obtain ⟨z, hz⟩ : ∃ z, ofN xu xm = z := ⟨_, rfl⟩
    rw [hz] at HTK ⊢
    by_cases hzg : z = g
    · have hzb : (z == g) = true := by rw [beq_iff_eq]; exact hzg
      refine wpAnyH_take (i := 3) (oi := { dst := some 15, op := Op.binOp BinOp.eql 3 (Operand.tmp 13) (Operand.tmp 14) 3, type := 4, pos := "group.go:115", after := #[{ on := 1, ground := Ground.data }, { on := 2, ground := Ground.data }], guard := none }) (v := ?v3y) rfl (by kernel_rfl) (by kernel_rfl) (by kernel_rfl) (fun _ _ _ h => h) (Or.inl ⟨by rfl, ?hy3y⟩) (by assumption) ?rest3y
      case hy3y =>
        intro w hSw
        try dsimp only at hSw
        go_simp
        try with_reducible rfl
      try simp only [Act.put, List.setIfInBounds_toArray, List.set_cons_zero, List.set_cons_succ]
      refine wpAnyH_done (by kernel_rfl) ?_ _
      have cr := cell_of_one r6
      have fr := free_of_one r6
      have HE : Hid (roundEnd (fun _ => False) (CountI w w.heap.size g S) (fun _ _ _ => False) (s + 1) M Wr .normal { tmps := #[], defers := [] } (W6.setCell ⟨w.heap.size + 1, 0, none⟩ (.int .i64 ((R : Int) + 1)))) := by
        have k7 := k6.mono (fun _ _ _ => trivial) |>.trans (setCell_keeps W6 (w.heap.size + 1) (.int .i64 ((R : Int) + 1)))
        refine ⟨k7.mono fun i _ h5 => ?_, HLc.out.own (k7.mono fun i _ h5 => ?_), (setCell_keeps W6 _ _).at g6 (by omega), ?_, HS1.out⟩
        · rcases h5 with h5 | h5
          · exact h5.elim
          · have := HLc.out.out i h5
            omega
        · omega
        · rw [HTK.out, if_pos hzg]
          exact one_setCell r6
      clear hHeld r6 g6 HRX HGX b6 k6 hkX
      gi_wp2
      exact HE.out
    · have hzb : (z == g) = false := by rw [beq_eq_false_iff_ne]; exact hzg
      refine wpAnyH_take (i := 3) (oi := { dst := some 15, op := Op.binOp BinOp.eql 3 (Operand.tmp 13) (Operand.tmp 14) 3, type := 4, pos := "group.go:115", after := #[{ on := 1, ground := Ground.data }, { on := 2, ground := Ground.data }], guard := none }) (v := ?v3n) rfl (by kernel_rfl) (by kernel_rfl) (by kernel_rfl) (fun _ _ _ h => h) (Or.inl ⟨by rfl, ?hy3n⟩) (by assumption) ?rest3n
      case hy3n =>
        intro w hSw
        try dsimp only at hSw
        go_simp
        try with_reducible rfl
      try simp only [Act.put, List.setIfInBounds_toArray, List.set_cons_zero, List.set_cons_succ]
      refine wpAnyH_done (by kernel_rfl) ?_ _
      have HE : Hid (roundEnd (fun _ => False) (CountI w w.heap.size g S) (fun _ _ _ => False) (s + 1) M Wr .normal { tmps := #[], defers := [] } W6) := by
        refine ⟨k6.mono fun i _ h5 => trivial, HLc.out.own (k6.mono fun i _ h5 => trivial), g6, ?_, HS1.out⟩
        rw [HTK.out, if_neg hzg]
        exact r6
      clear hHeld r6 g6 HRX HGX b6 k6 hkX
      gi_wp2
      exact HE.out
  case done =>
    rintro D s M W hD hdone hMD ⟨hlc, _, hrv, _⟩ hK
    have e : S.take s = S := List.take_of_length_le (by omega)
    rw [e] at hrv
    have c0 := cell_of_one hrv
    have hbel := hlc.bel
    have hsiz := hlc.siz
    have hout := hlc.out D hMD
    clear hlc hrv hdone
    gi_wp2
    refine ⟨by simp, .inl ⟨D, _, rfl, run_takeDeferred hK, ?_⟩⟩
    have hp := keeps_put W D (.deferred none)
    rw [← HEND.out]
    exact ⟨_, results_tmp Try.results15 _ _ _, rfl, hbel.trans (hp.below (fun i h5 => by omega) (by omega))⟩
  case stop =>
    rintro D k M W _ _ _ h _
    exact h.elim
end Go.Proofs.Ythjacjckobkhmaa
