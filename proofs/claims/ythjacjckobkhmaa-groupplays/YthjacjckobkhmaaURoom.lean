/- The walk of Room. -/
import Derived.Test.YthjacjckobkhmaaUIter
import Derived.Test.YthjacjckobkhmaaGRound
namespace Go.Proofs.Ythjacjckobkhmaa
open Go.RowKit
attribute [local go_sem] Oper.semAt_some

/-- What a loop keeps beside its own variables, in blocks q to less than q + nv. -/
structure Loc (w : World) (q nv : Nat) (M : Nat → Prop) (W : World) : Prop where
  bel : Below q w W
  siz : q + nv ≤ W.heap.size
  out : ∀ i, M i → q + nv ≤ i
section
variable {w W W' : World} {q nv : Nat} {M M' : Nat → Prop}
theorem Loc.no (h : Loc w q nv M W) {i : Nat} (hi : i < q + nv) : ¬ M i := fun h1 => by have := h.out i h1; omega
theorem Loc.kept (h : Loc w q nv M W) (hk : Keeps (fun k => ¬ M k) W W') (hM : ∀ k, M' k → M k ∨ (W.heap.size ≤ k ∧ k < W'.heap.size)) : Loc w q nv M' W' := by
  have hs := h.siz
  refine ⟨h.bel.trans (hk.below (fun k hk2 => h.no (by omega)) (by omega)), Nat.le_trans hs hk.size, fun i h1 => ?_⟩
  rcases hM i h1 with h2 | h2
  · exact h.out i h2
  · omega
end
theorem Loc.own {w W W' : World} {q nv : Nat} {M : Nat → Prop} (h : Loc w q nv M W) (hk : Keeps (fun k => k < q) W W') : Loc w q nv M W' :=
  ⟨h.bel.trans (hk.below (fun _ hk2 => hk2) (by have := h.siz; omega)), Nat.le_trans h.siz hk.size, h.out⟩
theorem roomG_srt (L : List Gh) : roomG (srt L) = roomG L := roomG_perm (srt_perm L)
theorem cntG_srt (g : Int) (L : List Gh) : cntG g (srt L) = cntG g L := cntG_perm g (srt_perm L)
theorem setCell_keeps (w : World) (q : Nat) (u : Value) : Keeps (fun i => i ≠ q) w (w.setCell ⟨q, 0, none⟩ u) := ⟨rfl, rfl, rfl, by simp, fun i _ h5 => Below.heap_setCell _ _ _ _ h5⟩

def RoomI (w : World) (q : Nat) (S : List Gh) (s : Nat) (M : Nat → Prop) (W : World) : Prop := Loc w q 1 M W ∧ W.heap[q]? = some (.cells #[.int .i64 (roomG (S.take s))] 3 (0, 0)) ∧ s ≤ S.length
theorem room_abides (w : World) (q : Nat) (S : List Gh) : Abides (RoomI w q S) := by
  rintro s M M' W W' ⟨h1, h2, h3⟩ hk hM
  exact ⟨h1.kept hk hM, hk.at h2 (h1.no (by omega)), h3⟩

set_option maxRecDepth 100000 in
set_option maxHeartbeats 1000000 in
theorem gRoom_any {v : Value} {L : List Gh} {bs : List Int} {a : Option Addr} {c : Nat} (w : World) (hbk : BookP w v L) (hG : Gok L) (hi : IntsAt .i64 w a bs)
    (hbs : ∀ b ∈ bs, -9223372036854775808 ≤ b ∧ b ≤ 9223372036854775807) (hl : bs.length ≤ 100) (hL : L.length ≤ 100) :
    Calls Try.prog 14 #[v, .slice a bs.length c] w fun e w' => e = .returned (.int .i64 (roomG (butG L bs))) ∧ Below w.heap.size w w' := by
  have hv : v = .pointer none ∨ ∃ r : Nat, v = .pointer (some ⟨r, 0, none⟩) := by
    rcases hbk with ⟨h, _⟩ | ⟨r, _, h, _⟩
    · exact .inl h
    · exact .inr ⟨r, h⟩
  obtain ⟨W1, hW1⟩ : ∃ W1, W1 = w.alloc (.cells #[.int .i64 0] 3) := ⟨_, rfl⟩
  have hb1 : Below w.heap.size w W1 := by rw [hW1]; exact (Below.refl _ w).alloc (Nat.le_refl _) _
  have hs1 : W1.heap.size = w.heap.size + 1 := by rw [hW1]; simp
  have r1 : W1.heap[w.heap.size]? = some (.cells #[.int .i64 0] 3 (0, 0)) := by rw [hW1]; exact heap_alloc_new w _
  have i1 : IntsAt .i64 W1 a bs := by
    rcases hi with h | ⟨b, off, rfl, hlt, hc⟩
    · exact .inl h
    · exact .inr ⟨b, off, rfl, by omega, fun i hi => (hb1.cell (p := ⟨b, off + i, none⟩) hlt).trans (hc i hi)⟩
  have HO : Hid _ := others_any v a bs.length c W1 hv
  refine (callsIn_wide (n := 3)).1 ?_
  refine callsIn_of_wp_marks Try.func14 rfl trivial ?_ rfl
  simp only [Try.ntmps14, List.size_toArray, List.length_cons, List.length_nil, Nat.reduceAdd, Nat.reduceSub, Array.replicate_succ, Array.replicate_zero, List.push_toArray, List.append_toArray, List.nil_append, List.cons_append]
  gi_wp2_with fail
  rw [← hW1]
  clear hW1
  refine ⟨trivial, CallsIn.mono (callsIn_wide.2 HO.out) ?_⟩
  rintro e W0 ⟨rfl, hc, hb0, hs0⟩
  rw [hs1] at hc hb0 hs0 ⊢
  have i0 : IntsAt .i64 W0 a bs := by
    rcases i1 with h | ⟨b, off, rfl, hlt, hc⟩
    · exact .inl h
    · exact .inr ⟨b, off, rfl, by omega, fun i hi => (hb0.cell (p := ⟨b, off + i, none⟩) (by show b < _; omega)).trans (hc i hi)⟩
  have hbw : Below w.heap.size w W0 := hb1.trans (hb0.mono (by omega))
  have hbk0 := hbk.below hbw
  have r0 := (hb0.block _ (by omega)).trans r1
  obtain ⟨S, hS⟩ : ∃ S, srt (butG L bs) = S := ⟨_, rfl⟩
  have hit := others_iter (K0 := fun _ => False) W0 hc hbk0 hG i0 hbs hl hL
  rw [hS] at hit
  have hSo : ∀ x ∈ S, 0 ≤ x.u ∧ x.u ≤ x.m ∧ x.m ≤ 100000000 := by
    intro x hx
    rw [← hS, (srt_perm _).mem_iff] at hx
    have := hG.ok x (List.mem_filter.1 hx).1
    omega
  have hSl : S.length ≤ 100 := by
    rw [← hS, (srt_perm _).length_eq]
    exact Nat.le_trans (List.length_filter_le _ _) hL
  have HEND : Hid (roomG S = roomG (butG L bs)) := by show _ = _; rw [← hS, roomG_srt]
  have HSO : Hid (∀ x ∈ S, 0 ≤ x.u ∧ x.u ≤ x.m ∧ x.m ≤ 100000000) := hSo
  clear hS hi i1 hc hbk hbk0 i0 hbs hSo HO hb1 hb0 r1 hv
  gi_wp2_with fail
  refine range_wp (gf := 27) (lb := uLb (w.heap.size + 1)) rfl (enters_of Try.func27 (by kernel_rfl) rfl)
    hit (fun i hi => hi.elim) (fun _ => rfl) (RoomI w w.heap.size S) (fun _ _ _ => False) (room_abides w w.heap.size S) (fun _ _ _ _ _ h _ _ => h)
    ⟨⟨hbw, by omega, fun _ h => h.elim⟩, by rw [List.take_zero]; exact r0, by omega⟩
    (fun x W a1 W1 => W1 = W.alloc (.cells #[.int .i64 x.u, .int .i64 x.m] 51) ∧ a1 = { tmps := #[v, .slice a bs.length c, undef, undef, .int .i64 0, .pointer (some ⟨w.heap.size, 0, none⟩), undef, .pointer (some ⟨W.heap.size, 0, none⟩), v, .slice a bs.length c, .func (.func 27) #[] (uLb (w.heap.size + 1)), .int .i64 x.n, .agg #[.int .i64 x.u, .int .i64 x.m], undef, undef, undef, undef, undef], defers := [] }) ?assign ?body ?done ?stop
  case assign =>
    intro m l x W K hK
    obtain ⟨xn, xu, xm⟩ := x
    unfold ghV
    gi_wp2
    exact hK _ _ ((Below.refl _ W).alloc (Nat.le_refl _) _) ⟨rfl, rfl⟩
  case body =>
    rintro m l s M x W a1 W1 Wr ⟨hlc, hrv, hsl⟩ hx hMl hl2 hM hbW ⟨rfl, rfl⟩ hlp hk hsz
    have hk1 : Keeps (fun k => k < W.heap.size ∧ k ≠ l) W Wr := (keeps_all hbW).trans (hk.mono fun k _ h1 => h1.2)
    have hlc2 : Loc w w.heap.size 1 M Wr := (hlc.kept (keeps_all hbW) (fun _ h => .inl h)).kept (hk.mono fun k _ h1 h2 => h1 (h2 ▸ hMl)) (fun _ h => .inl h)
    have hlW := hM l hMl
    have hne := hlc.out l hMl
    have hsi := hlc.siz
    have hrv2 := hk1.at hrv ⟨by omega, by omega⟩
    have hxc := hk.at (heap_alloc_new W (.cells #[.int .i64 x.u, .int .i64 x.m] 51)) (by omega : W.heap.size ≠ l)
    have hxb := HSO.out x (List.mem_of_getElem? hx)
    have HTK : Hid (roomG (S.take (s + 1)) = roomG (S.take s) + (x.m - x.u)) := roomG_take hx
    have hrb := roomG_bound (L := S.take s) (fun y hy => HSO.out y (List.mem_of_mem_take hy))
    have hls : (S.take s).length ≤ 100 := by rw [List.length_take]; omega
    have HS1 : Hid (s + 1 ≤ S.length) := (List.getElem?_eq_some_iff.1 hx).1
    have HLc : Hid (Loc w w.heap.size 1 M Wr) := hlc2
    obtain ⟨xn, xu, xm⟩ := x
    simp only at hxc hxb HTK hsz ⊢
    obtain ⟨R, hR⟩ : ∃ R, roomG (S.take s) = R := ⟨_, rfl⟩
    rw [hR] at hrv2 hrb HTK
    have hrb2 : 0 ≤ R ∧ R ≤ 10000000000 := by omega
    have hwr1 : IntKind.i64.wrap (R + (xm - xu)) = R + (xm - xu) := IntWalk.i64_in _ (by omega)
    obtain ⟨pb, hpb⟩ : ∃ pb, W.heap.size = pb := ⟨_, rfl⟩
    rw [hpb] at hxc ⊢
    have hpr : pb < Wr.heap.size := by rw [hsz]; simp [hpb]
    have hqp : w.heap.size < pb := by omega
    obtain ⟨d0, d1⟩ := cells_two hxc
    have q0 : Wr.drew.cell? ⟨pb, 0, none⟩ = some (.int .i64 xu) ∧ Wr.drew.cell? ⟨pb, 1, none⟩ = some (.int .i64 xm) := ⟨d0, d1⟩
    have HRX : Hid (Wr.drew.heap[w.heap.size]? = some (.cells #[.int .i64 R] 3 (0, 0))) := hrv2
    have hkX : Keeps (fun _ => True) Wr Wr.drew := keeps_below (drew_below Wr.heap.size Wr) fun _ h _ => h
    have hsX : Wr.drew.heap.size = Wr.heap.size := rfl
    have ce0 : Wr.drew.cell? ⟨w.heap.size, 0, none⟩ = some (.int .i64 R) := cell_of_one hrv2
    clear hlc hrv hsl hMl hl2 hM hbW hlp hk hk1 hlc2 hrv2 hxc hx hR hpb d0 d1 hsz hls hrb hlW hne hsi
    gi_wp2_with fail
    refine region_round_held (S := fun w' => w'.cell? ⟨pb, 0, none⟩ = some (.int .i64 xu) ∧ w'.cell? ⟨pb, 1, none⟩ = some (.int .i64 xm))
      (by kernel_rfl) (by repeat (first | exact round_lets | refine then_lets ?_ | refine block_lets ?_)) (by kernel_rfl) q0 (fun hHeld => ?_)
    generalize Wr.drew = X at *
    clear q0
    refine wpAnyH_take (i := 1) (oi := { dst := some 14, op := Op.load 51 (Operand.tmp 7), type := 51, pos := "group.go:106", after := #[], guard := none }) (v := ?v1) rfl (by kernel_rfl) (by kernel_rfl) (by kernel_rfl) (fun _ _ _ h => h) (Or.inl ⟨by rfl, ?hy1⟩) (by assumption) ?rest1
    case hy1 =>
      intro w hSw
      try dsimp only at hSw
      go_simp
      try with_reducible rfl
    try simp only [Act.put, List.setIfInBounds_toArray, List.set_cons_zero, List.set_cons_succ]
    refine wpAnyH_ready (rs := [0, 2]) (by kernel_rfl) (by simp) ?_
    refine AllReadyH.cons (o := { dst := some 13, op := Op.load 3 (Operand.tmp 5), type := 3, pos := "group.go:106", after := #[], guard := none }) rfl (fun KK9 hK9 => ?_) ?other
    · go_simp
      refine hK9.out _ _ (by assumption) (fun hHeld => ?_)
      clear hK9 KK9
      try simp only [Act.put, List.setIfInBounds_toArray, List.set_cons_zero, List.set_cons_succ]
      refine wpAnyH_ready (rs := [2]) (by kernel_rfl) (by simp) ?_
      refine AllReadyH.cons (o := { dst := some 15, op := Op.call { callee := Callee.value (Operand.func 26), args := #[Operand.tmp 14], argTypes := #[51] }, type := 3, pos := "group.go:106", after := #[{ on := 1, ground := Ground.data }], guard := none }) rfl (fun KK9 hK9 => ?_) ?moreCLa
      case moreCLa => exact AllReadyH.nil
      go_simp
      refine (free_any xu xm X hxb).mono ?_
      rintro e6 W6 ⟨rfl, b6⟩
      go_simp
      have r6 : W6.heap[w.heap.size]? = some (.cells #[.int .i64 R] 3 (0, 0)) := (b6.block _ (by omega)).trans HRX.out
      have cr := cell_of_one r6
      have fr := free_of_one r6
      have d06 := (b6.cell (p := ⟨pb, 0, none⟩) (by show pb < _; omega)).trans hHeld.1
      have d16 := (b6.cell (p := ⟨pb, 1, none⟩) (by show pb < _; omega)).trans hHeld.2
      refine hK9.out _ _ ⟨d06, d16⟩ (fun hHeld => ?_)
      clear hK9 KK9
      try simp only [Act.put, List.setIfInBounds_toArray, List.set_cons_zero, List.set_cons_succ]
      refine wpAnyH_take (i := 3) (oi := { dst := some 16, op := Op.binOp BinOp.add 3 (Operand.tmp 13) (Operand.tmp 15) 3, type := 3, pos := "group.go:106", after := #[{ on := 0, ground := Ground.data }, { on := 2, ground := Ground.data }], guard := none }) (v := ?v3a) rfl (by kernel_rfl) (by kernel_rfl) (by kernel_rfl) (fun _ _ _ h => h) (Or.inl ⟨by rfl, ?hy3a⟩) (by assumption) ?rest3a
      case hy3a =>
        intro w hSw
        try dsimp only at hSw
        go_simp
        try with_reducible rfl
      try simp only [Act.put, List.setIfInBounds_toArray, List.set_cons_zero, List.set_cons_succ]
      refine wpAnyH_ready (rs := [4]) (by kernel_rfl) (by simp) ?_
      refine AllReadyH.cons (o := { dst := none, op := Op.store 3 (Operand.tmp 5) (Operand.tmp 16), type := 0, pos := "group.go:106", after := #[{ on := 3, ground := Ground.data }, { on := 2, ground := Ground.chain }, { on := 0, ground := Ground.phase }, { on := 1, ground := Ground.phase }, { on := 2, ground := Ground.phase }, { on := 3, ground := Ground.phase }], guard := none }) rfl (fun KK9 hK9 => ?_) ?moreSTa
      case moreSTa => exact AllReadyH.nil
      go_simp
      have HE : Hid (roundEnd (fun _ => False) (RoomI w w.heap.size S) (fun _ _ _ => False) (s + 1) M Wr .normal { tmps := #[], defers := [] } (W6.setCell ⟨w.heap.size, 0, none⟩ (.int .i64 (R + (xm - xu))))) := by
        have k6 : Keeps (fun i => ¬ (i = w.heap.size)) Wr (W6.setCell ⟨w.heap.size, 0, none⟩ (.int .i64 (R + (xm - xu)))) := (hkX.trans (keeps_all b6)).mono (fun _ _ _ => trivial) |>.trans (setCell_keeps W6 w.heap.size _)
        refine ⟨k6.mono fun i _ h5 => ?_, HLc.out.own (k6.mono fun i _ h5 => ?_), ?_, HS1.out⟩
        · rcases h5 with h5 | h5
          · exact h5.elim
          · have := HLc.out.out i h5
            omega
        · omega
        · rw [HTK.out]
          exact one_setCell r6
      refine hK9.out _ _ ?keepSTa (fun hHeld => ?_)
      case keepSTa =>
        exact ⟨((setCell_keeps W6 w.heap.size _).cell (p := ⟨pb, 0, none⟩) (by show pb < _; have := b6.size; omega) (by show pb ≠ _; omega)).trans d06, ((setCell_keeps W6 w.heap.size _).cell (p := ⟨pb, 1, none⟩) (by show pb < _; have := b6.size; omega) (by show pb ≠ _; omega)).trans d16⟩
      clear hK9 KK9
      refine wpAnyH_done (by kernel_rfl) ?_ _
      exact HE.out
    case other =>
      refine AllReadyH.cons (o := { dst := some 15, op := Op.call { callee := Callee.value (Operand.func 26), args := #[Operand.tmp 14], argTypes := #[51] }, type := 3, pos := "group.go:106", after := #[{ on := 1, ground := Ground.data }], guard := none }) rfl (fun KK9 hK9 => ?_) ?moreCLb
      case moreCLb => exact AllReadyH.nil
      go_simp
      refine (free_any xu xm X hxb).mono ?_
      rintro e6 W6 ⟨rfl, b6⟩
      go_simp
      have r6 : W6.heap[w.heap.size]? = some (.cells #[.int .i64 R] 3 (0, 0)) := (b6.block _ (by omega)).trans HRX.out
      have cr := cell_of_one r6
      have fr := free_of_one r6
      have d06 := (b6.cell (p := ⟨pb, 0, none⟩) (by show pb < _; omega)).trans hHeld.1
      have d16 := (b6.cell (p := ⟨pb, 1, none⟩) (by show pb < _; omega)).trans hHeld.2
      refine hK9.out _ _ ⟨d06, d16⟩ (fun hHeld => ?_)
      clear hK9 KK9
      try simp only [Act.put, List.setIfInBounds_toArray, List.set_cons_zero, List.set_cons_succ]
      refine wpAnyH_ready (rs := [0]) (by kernel_rfl) (by simp) ?_
      refine AllReadyH.cons (o := { dst := some 13, op := Op.load 3 (Operand.tmp 5), type := 3, pos := "group.go:106", after := #[], guard := none }) rfl (fun KK9 hK9 => ?_) ?moreLDb
      case moreLDb => exact AllReadyH.nil
      go_simp
      refine hK9.out _ _ (by assumption) (fun hHeld => ?_)
      clear hK9 KK9
      try simp only [Act.put, List.setIfInBounds_toArray, List.set_cons_zero, List.set_cons_succ]
      refine wpAnyH_take (i := 3) (oi := { dst := some 16, op := Op.binOp BinOp.add 3 (Operand.tmp 13) (Operand.tmp 15) 3, type := 3, pos := "group.go:106", after := #[{ on := 0, ground := Ground.data }, { on := 2, ground := Ground.data }], guard := none }) (v := ?v3b) rfl (by kernel_rfl) (by kernel_rfl) (by kernel_rfl) (fun _ _ _ h => h) (Or.inl ⟨by rfl, ?hy3b⟩) (by assumption) ?rest3b
      case hy3b =>
        intro w hSw
        try dsimp only at hSw
        go_simp
        try with_reducible rfl
      try simp only [Act.put, List.setIfInBounds_toArray, List.set_cons_zero, List.set_cons_succ]
      refine wpAnyH_ready (rs := [4]) (by kernel_rfl) (by simp) ?_
      refine AllReadyH.cons (o := { dst := none, op := Op.store 3 (Operand.tmp 5) (Operand.tmp 16), type := 0, pos := "group.go:106", after := #[{ on := 3, ground := Ground.data }, { on := 2, ground := Ground.chain }, { on := 0, ground := Ground.phase }, { on := 1, ground := Ground.phase }, { on := 2, ground := Ground.phase }, { on := 3, ground := Ground.phase }], guard := none }) rfl (fun KK9 hK9 => ?_) ?moreSTb
      case moreSTb => exact AllReadyH.nil
      go_simp
      have HE : Hid (roundEnd (fun _ => False) (RoomI w w.heap.size S) (fun _ _ _ => False) (s + 1) M Wr .normal { tmps := #[], defers := [] } (W6.setCell ⟨w.heap.size, 0, none⟩ (.int .i64 (R + (xm - xu))))) := by
        have k6 : Keeps (fun i => ¬ (i = w.heap.size)) Wr (W6.setCell ⟨w.heap.size, 0, none⟩ (.int .i64 (R + (xm - xu)))) := (hkX.trans (keeps_all b6)).mono (fun _ _ _ => trivial) |>.trans (setCell_keeps W6 w.heap.size _)
        refine ⟨k6.mono fun i _ h5 => ?_, HLc.out.own (k6.mono fun i _ h5 => ?_), ?_, HS1.out⟩
        · rcases h5 with h5 | h5
          · exact h5.elim
          · have := HLc.out.out i h5
            omega
        · omega
        · rw [HTK.out]
          exact one_setCell r6
      refine hK9.out _ _ ?keepSTb (fun hHeld => ?_)
      case keepSTb =>
        exact ⟨((setCell_keeps W6 w.heap.size _).cell (p := ⟨pb, 0, none⟩) (by show pb < _; have := b6.size; omega) (by show pb ≠ _; omega)).trans d06, ((setCell_keeps W6 w.heap.size _).cell (p := ⟨pb, 1, none⟩) (by show pb < _; have := b6.size; omega) (by show pb ≠ _; omega)).trans d16⟩
      clear hK9 KK9
      refine wpAnyH_done (by kernel_rfl) ?_ _
      exact HE.out
  case done =>
    rintro D s M W hD hdone hMD ⟨hlc, hrv, _⟩ hK
    have e : S.take s = S := List.take_of_length_le (by omega)
    rw [e] at hrv
    have c0 := cell_of_one hrv
    have hbel := hlc.bel
    have hsiz := hlc.siz
    have hout := hlc.out D hMD
    clear hlc hrv hdone
    gi_wp2
    refine ⟨by simp, .inl ⟨D, _, rfl, run_takeDeferred hK, ?_⟩⟩
    have hp := keeps_put W D (.deferred none)
    rw [← HEND.out]
    exact ⟨_, results_tmp Try.results14 _ _ _, rfl, hbel.trans (hp.below (fun i h5 => by omega) (by omega))⟩
  case stop =>
    rintro D k M W _ _ _ h _
    exact h.elim
end Go.Proofs.Ythjacjckobkhmaa
