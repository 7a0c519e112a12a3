/- The walk of Worst. -/
import Derived.Test.YthjacjckobkhmaaUBest
namespace Go.Proofs.Ythjacjckobkhmaa
open Go.RowKit
attribute [local go_sem] Oper.semAt_some

def bU : Option Gh → Int
  | none => 0
  | some h => h.u
def ltW (h b : Gh) : Bool := decide (h.u ≤ b.u)
def WorstI (w : World) (q : Nat) (S : List Gh) (s : Nat) (M : Nat → Prop) (W : World) : Prop :=
  Loc w q 3 M W ∧ W.heap[q]? = some (.cells #[.int .i64 (bN (minOf isMid ltW (S.take s)))] 3 (0, 0)) ∧ W.heap[q + 1]? = some (.cells #[.int .i64 (bU (minOf isMid ltW (S.take s)))] 3 (0, 0)) ∧
    W.heap[q + 2]? = some (.cells #[.bool (bS (minOf isMid ltW (S.take s)))] 4 (0, 0)) ∧ s ≤ S.length
theorem worst_abides (w : World) (q : Nat) (S : List Gh) : Abides (WorstI w q S) := by
  rintro s M M' W W' ⟨h1, h2, h4, h5, h3⟩ hk hM
  exact ⟨h1.kept hk hM, hk.at h2 (h1.no (by omega)), hk.at h4 (h1.no (by omega)), hk.at h5 (h1.no (by omega)), h3⟩

set_option maxRecDepth 100000 in
set_option maxHeartbeats 1000000 in
theorem gWorst_any {v : Value} {L : List Gh} (w : World) (hbk : BookP w v L) (hG : Gok L) (hL : L.length ≤ 100) :
    Calls Try.prog 11 #[v] w fun e w' => e = .returned (.tuple #[.int .i64 (bN (worstD L)), .bool (bS (worstD L))]) ∧ Below w.heap.size w w' := by
  have hv : v = .pointer none ∨ ∃ r : Nat, v = .pointer (some ⟨r, 0, none⟩) := by
    rcases hbk with ⟨h, _⟩ | ⟨r, _, h, _⟩
    · exact .inl h
    · exact .inr ⟨r, h⟩
  obtain ⟨W1, hW1, hb1, hs1, r1, r2, r3⟩ := three_vars w (.int .i64 0) (.int .i64 0) (.bool false) 3 3 4
  have HO : Hid _ := others_any v none 0 0 W1 hv
  refine (callsIn_wide (n := 3)).1 ?_
  refine callsIn_of_wp_marks Try.func11 rfl trivial ?_ rfl
  simp only [Try.ntmps11, List.size_toArray, List.length_cons, List.length_nil, Nat.reduceAdd, Nat.reduceSub, Array.replicate_succ, Array.replicate_zero, List.push_toArray, List.append_toArray, List.nil_append, List.cons_append]
  gi_wp2_with fail
  rw [← hW1]
  clear hW1
  refine ⟨trivial, CallsIn.mono (callsIn_wide.2 HO.out) ?_⟩
  rintro e W0 ⟨rfl, hc, hb0, hs0⟩
  rw [hs1] at hc hb0 hs0 ⊢
  have hbw : Below w.heap.size w W0 := hb1.trans (hb0.mono (by omega))
  have hbk0 := hbk.below hbw
  have r10 := (hb0.block _ (by omega)).trans r1
  have r20 := (hb0.block _ (by omega)).trans r2
  have r30 := (hb0.block _ (by omega)).trans r3
  obtain ⟨S, hS⟩ : ∃ S, srt L = S := ⟨_, rfl⟩
  have hit := others_iter (bs := []) (K0 := fun _ => False) W0 hc hbk0 hG (.inl rfl) (fun _ h => (by cases h)) (by simp) hL
  rw [butG_nil, hS] at hit
  have hSo : ∀ x ∈ S, 0 ≤ x.u ∧ x.u ≤ x.m ∧ x.m ≤ 100000000 := by
    intro x hx
    rw [← hS, (srt_perm _).mem_iff] at hx
    have := hG.ok x hx
    omega
  have HEND : Hid (minOf isMid ltW S = worstD L) := by
    show _ = _
    rw [← hS]
    exact worst_doc hG
  have HSO : Hid (∀ x ∈ S, 0 ≤ x.u ∧ x.u ≤ x.m ∧ x.m ≤ 100000000) := hSo
  clear hS hc hbk hbk0 hSo HO hb1 hb0 r1 r2 r3 hv
  gi_wp2_with fail
  refine range_wp (gf := 27) (lb := uLb (w.heap.size + 3)) rfl (enters_of Try.func27 (by kernel_rfl) rfl)
    hit (fun i hi => hi.elim) (fun _ => rfl) (WorstI w w.heap.size S) (fun _ _ _ => False) (worst_abides w w.heap.size S) (fun _ _ _ _ _ h _ _ => h)
    ⟨⟨hbw, by omega, fun _ h => h.elim⟩, by rw [minOf_zero]; exact r10, by rw [minOf_zero]; exact r20, by rw [minOf_zero]; exact r30, by omega⟩
    (fun x W a1 W1 => W1 = W.alloc (.cells #[.int .i64 x.u, .int .i64 x.m] 51) ∧ a1 = { tmps := #[v, undef, .int .i64 0, .bool false, .pointer (some ⟨w.heap.size, 0, none⟩), .pointer (some ⟨w.heap.size + 1, 0, none⟩), .pointer (some ⟨w.heap.size + 2, 0, none⟩), .int .i64 x.n, .pointer (some ⟨W.heap.size, 0, none⟩), undef, v, .func (.func 27) #[] (uLb (w.heap.size + 3)), .int .i64 x.n, .agg #[.int .i64 x.u, .int .i64 x.m], undef, undef, undef, undef, undef, undef, undef, undef, undef, undef, undef, undef, undef, undef, undef, undef, undef, undef, undef, undef, undef, undef, undef], defers := [] }) ?assign ?body ?done ?stop
  case assign =>
    intro m l x W K hK
    obtain ⟨xn, xu, xm⟩ := x
    unfold ghV
    gi_wp2
    exact hK _ _ ((Below.refl _ W).alloc (Nat.le_refl _) _) ⟨rfl, rfl⟩
  case body =>
    rintro m l s M x W a1 W1 Wr ⟨hlc, hv0, hv1, hv2, hsl⟩ hx hMl hl2 hM hbW ⟨rfl, rfl⟩ hlp hk hsz
    have hk1 : Keeps (fun k => k < W.heap.size ∧ k ≠ l) W Wr := (keeps_all hbW).trans (hk.mono fun k _ h1 => h1.2)
    have hlc2 : Loc w w.heap.size 3 M Wr := (hlc.kept (keeps_all hbW) (fun _ h => .inl h)).kept (hk.mono fun k _ h1 h2 => h1 (h2 ▸ hMl)) (fun _ h => .inl h)
    have hlW := hM l hMl
    have hne := hlc.out l hMl
    have hsi := hlc.siz
    have hw0 := hk1.at hv0 ⟨by omega, by omega⟩
    have hw1 := hk1.at hv1 ⟨by omega, by omega⟩
    have hw2 := hk1.at hv2 ⟨by omega, by omega⟩
    have hxc := hk.at (heap_alloc_new W (.cells #[.int .i64 x.u, .int .i64 x.m] 51)) (by omega : W.heap.size ≠ l)
    have hxb := HSO.out x (List.mem_of_getElem? hx)
    have HTK : Hid (minOf isMid ltW (S.take (s + 1)) = stM isMid ltW (minOf isMid ltW (S.take s)) x) := minOf_take hx
    have HS1 : Hid (s + 1 ≤ S.length) := (List.getElem?_eq_some_iff.1 hx).1
    have HLc : Hid (Loc w w.heap.size 3 M Wr) := hlc2
    obtain ⟨xn, xu, xm⟩ := x
    simp only at hxc hxb HTK hsz ⊢
    obtain ⟨o, ho⟩ : ∃ o, minOf isMid ltW (S.take s) = o := ⟨_, rfl⟩
    rw [ho] at hw0 hw1 hw2 HTK
    obtain ⟨pb, hpb⟩ : ∃ pb, W.heap.size = pb := ⟨_, rfl⟩
    rw [hpb] at hxc ⊢
    have hpr : pb < Wr.heap.size := by rw [hsz]; simp [hpb]
    have hqp : w.heap.size + 3 ≤ pb := by omega
    obtain ⟨d0, d1⟩ := cells_two hxc
    have HV : Hid (Wr.heap[w.heap.size]? = some (.cells #[.int .i64 (bN o)] 3 (0, 0)) ∧ Wr.heap[w.heap.size + 1]? = some (.cells #[.int .i64 (bU o)] 3 (0, 0)) ∧ Wr.heap[w.heap.size + 2]? = some (.cells #[.bool (bS o)] 4 (0, 0))) := ⟨hw0, hw1, hw2⟩
    have hkX : Keeps (fun _ => True) Wr Wr := Keeps.refl _ _
    have HGR : Hid _ := group_any xu xm Wr hxb
    have HD : Hid (Wr.cell? ⟨pb, 0, none⟩ = some (.int .i64 xu) ∧ Wr.cell? ⟨pb, 1, none⟩ = some (.int .i64 xm)) := ⟨d0, d1⟩
    obtain ⟨bf, hbf⟩ : ∃ bf, bU o = bf := ⟨_, rfl⟩
    obtain ⟨bz, hbz⟩ : ∃ bz, bS o = bz := ⟨_, rfl⟩
    clear hlc hv0 hv1 hv2 hsl hMl hl2 hM hbW hlp hk hk1 hlc2 hw0 hw1 hw2 hxc hx ho hpb hsz hlW hne hsi
    gi_wp2_with fail
    refine ⟨trivial, fun h => (by cases h), CallsIn.mono (CallsIn.inRound l (callsIn_wide.2 HGR.out)) ?_⟩
    rintro e6 W6 ⟨rfl, b6⟩
    have hs6 := b6.size
    have k6 : Keeps (fun _ => True) Wr W6 := keeps_all b6
    have v6 : W6.heap[w.heap.size]? = some (.cells #[.int .i64 (bN o)] 3 (0, 0)) ∧ W6.heap[w.heap.size + 1]? = some (.cells #[.int .i64 (bU o)] 3 (0, 0)) ∧ W6.heap[w.heap.size + 2]? = some (.cells #[.bool (bS o)] 4 (0, 0)) :=
      ⟨k6.at HV.out.1 trivial, k6.at HV.out.2.1 trivial, k6.at HV.out.2.2 trivial⟩
    have c6 : W6.cell? ⟨pb, 0, none⟩ = some (.int .i64 xu) := (b6.cell (p := ⟨pb, 0, none⟩) (by show pb < _; omega)).trans HD.out.1
    have d6 : W6.cell? ⟨pb, 1, none⟩ = some (.int .i64 xm) := (b6.cell (p := ⟨pb, 1, none⟩) (by show pb < _; omega)).trans HD.out.2
    have w1 : W6.cell? ⟨w.heap.size + 1, 0, none⟩ = some (.int .i64 bf) := hbf ▸ cell_of_one v6.2.1
    have w2 : W6.cell? ⟨w.heap.size + 2, 0, none⟩ = some (.bool bz) := hbz ▸ cell_of_one v6.2.2
    obtain ⟨z, hz⟩ : ∃ z, ofN xu xm = z := ⟨_, rfl⟩
    rw [hz]
    have HIM : Hid (isMid ⟨xn, xu, xm⟩ = (!decide (z = 0) && !decide (z = 4))) := by
      show _ = _
      unfold isMid
      rw [hz]
    clear hz d0 d1 HD HGR b6
    by_cases hz0 : z = 0
    · subst hz0
      have HST : stM isMid ltW o ⟨xn, xu, xm⟩ = o := by
        have : isMid ⟨xn, xu, xm⟩ = false := HIM.out
        unfold stM
        cases o <;> simp [this]
      have HVX : Hid _ := v6
      clear v6
      have HE : Hid (roundEnd (fun _ => False) (WorstI w w.heap.size S) (fun _ _ _ => False) (s + 1) M Wr .normal { tmps := #[], defers := [] } W6) := by
        refine ⟨k6.mono fun i _ h5 => trivial, HLc.out.own (k6.mono fun i _ h5 => trivial), ?_, ?_, ?_, HS1.out⟩
        · rw [HTK.out, HST]; exact (k6.at HV.out.1 trivial)
        · rw [HTK.out, HST]; exact (k6.at HV.out.2.1 trivial)
        · rw [HTK.out, HST]; exact (k6.at HV.out.2.2 trivial)
      clear hkX
      gi_wp2
      exact HE.out
    · by_cases hz4 : z = 4
      · subst hz4
        have HST : stM isMid ltW o ⟨xn, xu, xm⟩ = o := by
          have : isMid ⟨xn, xu, xm⟩ = false := HIM.out
          unfold stM
          cases o <;> simp [this]
        have HVX : Hid _ := v6
        clear v6
        have HE : Hid (roundEnd (fun _ => False) (WorstI w w.heap.size S) (fun _ _ _ => False) (s + 1) M Wr .normal { tmps := #[], defers := [] } W6) := by
          refine ⟨k6.mono fun i _ h5 => trivial, HLc.out.own (k6.mono fun i _ h5 => trivial), ?_, ?_, ?_, HS1.out⟩
          · rw [HTK.out, HST]; exact (k6.at HV.out.1 trivial)
          · rw [HTK.out, HST]; exact (k6.at HV.out.2.1 trivial)
          · rw [HTK.out, HST]; exact (k6.at HV.out.2.2 trivial)
        clear hkX
        gi_wp2
        exact HE.out
      · have hzb0 : (z != 0) = true := by simp [hz0]
        have hzb4 : (z != 4) = true := by simp [hz4]
        have hm : isMid ⟨xn, xu, xm⟩ = true := by rw [HIM.out]; simp [hz0, hz4]
        cases o with
        | none =>
          obtain rfl : false = bz := hbz
          have HST : stM isMid ltW none ⟨xn, xu, xm⟩ = some ⟨xn, xu, xm⟩ := by simp [stM, hm]
          have HSY : Hid (stM isMid ltW none ⟨xn, xu, xm⟩ = some ⟨xn, xu, xm⟩) := HST
          clear HST
          gi_wp2_with fail
          have hdr : W6.drew.heap.size = W6.heap.size := rfl
          have r0 : W6.drew.heap[w.heap.size]? = some (.cells #[.int .i64 (bN none)] 3 (0, 0)) := v6.1
          have r1 : W6.drew.heap[w.heap.size + 1]? = some (.cells #[.int .i64 (bU none)] 3 (0, 0)) := v6.2.1
          have r2 : W6.drew.heap[w.heap.size + 2]? = some (.cells #[.bool (bS none)] 4 (0, 0)) := v6.2.2
          have e6 : W6.drew.cell? ⟨pb, 0, none⟩ = some (.int .i64 xu) := c6
          have kd : Keeps (fun _ => True) Wr W6.drew := k6.trans (keeps_all (drew_below _ W6))
          clear c6 d6 v6 w1 w2
          refine region_round_held (S := fun w' => w'.cell? ⟨pb, 0, none⟩ = some (.int .i64 xu))
            (by kernel_rfl) (by repeat (first | exact round_lets | refine then_lets ?_ | refine block_lets ?_)) (by kernel_rfl) e6 (fun hHeld => ?_)
          generalize W6.drew = W7 at *
          have f0 := free_of_one r0
          have f1 := free_of_one r1
          have f2 := free_of_one r2
          have g0 := cell_of_one r0
          have g1 := cell_of_one r1
          have g2 := cell_of_one r2
          have k1 := setCell_keeps W7 w.heap.size (.int .i64 xn)
          have k2 := setCell_keeps (W7.setCell ⟨w.heap.size, 0, none⟩ (.int .i64 xn)) (w.heap.size + 1) (.int .i64 xu)
          have k3 := setCell_keeps ((W7.setCell ⟨w.heap.size, 0, none⟩ (.int .i64 xn)).setCell ⟨w.heap.size + 1, 0, none⟩ (.int .i64 xu)) (w.heap.size + 2) (.bool true)
          have s0 := one_setCell (u := .int .i64 xn) r0
          have t1 := k1.at r1 (by omega)
          have s1 := one_setCell (u := .int .i64 xu) t1
          have t2 := k2.at (k1.at r2 (by omega)) (by omega)
          have s2 := one_setCell (u := .bool true) t2
          have p1 := (k1.cell (p := ⟨pb, 0, none⟩) (by show pb < _; omega) (by show pb ≠ _; omega)).trans e6
          have p2 := (k2.cell (p := ⟨pb, 0, none⟩) (by show pb < _; have := k1.size; omega) (by show pb ≠ _; omega)).trans p1
          have p3 := (k3.cell (p := ⟨pb, 0, none⟩) (by show pb < _; have := k1.size; have := k2.size; omega) (by show pb ≠ _; omega)).trans p2
          have h1 := free_of_one t1
          have j1 := cell_of_one t1
          have h2 := free_of_one t2
          have j2 := cell_of_one t2
          have HE : Hid (roundEnd (fun _ => False) (WorstI w w.heap.size S) (fun _ _ _ => False) (s + 1) M Wr .normal { tmps := #[], defers := [] } (((W7.setCell ⟨w.heap.size, 0, none⟩ (.int .i64 xn)).setCell ⟨w.heap.size + 1, 0, none⟩ (.int .i64 xu)).setCell ⟨w.heap.size + 2, 0, none⟩ (.bool true))) := by
            have kk : Keeps (fun i => i < w.heap.size ∨ w.heap.size + 3 ≤ i) Wr (((W7.setCell ⟨w.heap.size, 0, none⟩ (.int .i64 xn)).setCell ⟨w.heap.size + 1, 0, none⟩ (.int .i64 xu)).setCell ⟨w.heap.size + 2, 0, none⟩ (.bool true)) :=
              (kd.mono fun _ _ _ => trivial).trans ((k1.mono fun i _ h5 => by omega).trans ((k2.mono fun i _ h5 => by omega).trans (k3.mono fun i _ h5 => by omega)))
            refine ⟨kk.mono fun i _ h5 => ?_, HLc.out.own (kk.mono fun i _ h5 => .inl h5), ?_, ?_, ?_, HS1.out⟩
            · rcases h5 with h5 | h5
              · exact h5.elim
              · exact .inr (HLc.out.out i h5)
            · rw [HTK.out, HSY.out]; exact k3.at (k2.at s0 (by omega)) (by omega)
            · rw [HTK.out, HSY.out]; exact k3.at s1 (by omega)
            · rw [HTK.out, HSY.out]; exact s2
          clear k1 k2 k3 s0 s1 s2 t1 t2 r0 r1 r2 kd e6
          refine wpAnyH_take (i := 0) (oi := { dst := some 32, op := Op.move (Operand.tmp 7), type := 3, pos := "group.go:96", after := #[], guard := none }) (v := ?v0e) rfl (by kernel_rfl) (by kernel_rfl) (by kernel_rfl) (fun _ _ _ h => h) (Or.inl ⟨by rfl, ?hy0e⟩) (by assumption) ?rest0e
          case hy0e =>
            intro w hSw
            try dsimp only at hSw
            go_simp
            try with_reducible rfl
          try simp only [Act.put, List.setIfInBounds_toArray, List.set_cons_zero, List.set_cons_succ]
          refine wpAnyH_take (i := 1) (oi := { dst := some 33, op := Op.fieldAddr 51 (Operand.tmp 8) 0, type := 0, pos := "group.go:96", after := #[{ on := 3, ground := Ground.gcOnly Departure.lateStores }], guard := none }) (v := ?v1e) rfl (by kernel_rfl) (by kernel_rfl) (by kernel_rfl) (fun _ _ _ h => h) (Or.inl ⟨by rfl, ?hy1e⟩) (by assumption) ?rest1e
          case hy1e =>
            intro w hSw
            try dsimp only at hSw
            go_simp
            try with_reducible rfl
          try simp only [Act.put, List.setIfInBounds_toArray, List.set_cons_zero, List.set_cons_succ]
          refine wpAnyH_take (i := 2) (oi := { dst := some 34, op := Op.load 3 (Operand.tmp 33), type := 3, pos := "group.go:96", after := #[{ on := 1, ground := Ground.data }, { on := 3, ground := Ground.gcOnly Departure.lateStores }], guard := none }) (v := ?v2e) rfl (by kernel_rfl) (by kernel_rfl) (by kernel_rfl) (fun _ _ _ h => h) (Or.inl ⟨by rfl, ?hy2e⟩) (by assumption) ?rest2e
          case hy2e =>
            intro w hSw
            try dsimp only at hSw
            go_simp
            try with_reducible rfl
          try simp only [Act.put, List.setIfInBounds_toArray, List.set_cons_zero, List.set_cons_succ]
          refine wpAnyH_ready (rs := [3]) (by kernel_rfl) (by simp) ?_
          refine AllReadyH.cons (o := { dst := none, op := Op.store 3 (Operand.tmp 4) (Operand.tmp 32), type := 0, pos := "group.go:96", after := #[{ on := 0, ground := Ground.data }, { on := 0, ground := Ground.phase }, { on := 1, ground := Ground.textOnly Departure.lateStores }, { on := 2, ground := Ground.textOnly Departure.lateStores }], guard := none }) rfl (fun KK9 hK9 => ?_) ?moreAe
          case moreAe => exact AllReadyH.nil
          go_simp
          refine hK9.out _ _ p1 (fun hHeld => ?_)
          clear hK9 KK9
          refine wpAnyH_ready (rs := [4]) (by kernel_rfl) (by simp) ?_
          refine AllReadyH.cons (o := { dst := none, op := Op.store 3 (Operand.tmp 5) (Operand.tmp 34), type := 0, pos := "group.go:96", after := #[{ on := 2, ground := Ground.data }, { on := 3, ground := Ground.chain }, { on := 0, ground := Ground.phase }, { on := 1, ground := Ground.phase }, { on := 2, ground := Ground.phase }, { on := 3, ground := Ground.phase }], guard := none }) rfl (fun KK9 hK9 => ?_) ?moreBe
          case moreBe => exact AllReadyH.nil
          go_simp
          refine hK9.out _ _ p2 (fun hHeld => ?_)
          clear hK9 KK9
          refine wpAnyH_ready (rs := [5]) (by kernel_rfl) (by simp) ?_
          refine AllReadyH.cons (o := { dst := none, op := Op.store 4 (Operand.tmp 6) (Operand.const (Value.bool true)), type := 0, pos := "group.go:96", after := #[{ on := 4, ground := Ground.chain }, { on := 0, ground := Ground.phase }, { on := 1, ground := Ground.phase }, { on := 2, ground := Ground.phase }, { on := 3, ground := Ground.phase }, { on := 4, ground := Ground.phase }], guard := none }) rfl (fun KK9 hK9 => ?_) ?moreCe
          case moreCe => exact AllReadyH.nil
          go_simp
          refine hK9.out _ _ p3 (fun hHeld => ?_)
          clear hK9 KK9
          refine wpAnyH_done (by kernel_rfl) ?_ _
          exact HE.out
        | some b =>
          obtain rfl : true = bz := hbz
          have hbf2 : b.u = bf := hbf
          by_cases hlt : xu ≤ bf
          · have HST : stM isMid ltW (some b) ⟨xn, xu, xm⟩ = some ⟨xn, xu, xm⟩ := by
              have : ltW ⟨xn, xu, xm⟩ b = true := by unfold ltW; rw [hbf2]; exact decide_eq_true hlt
              simp [stM, hm, this]
            have HSY : Hid (stM isMid ltW (some b) ⟨xn, xu, xm⟩ = some ⟨xn, xu, xm⟩) := HST
            clear HST
            gi_wp2_with fail
            have hdr : W6.drew.heap.size = W6.heap.size := rfl
            have r0 : W6.drew.heap[w.heap.size]? = some (.cells #[.int .i64 (bN (some b))] 3 (0, 0)) := v6.1
            have r1 : W6.drew.heap[w.heap.size + 1]? = some (.cells #[.int .i64 (bU (some b))] 3 (0, 0)) := v6.2.1
            have r2 : W6.drew.heap[w.heap.size + 2]? = some (.cells #[.bool (bS (some b))] 4 (0, 0)) := v6.2.2
            have e6 : W6.drew.cell? ⟨pb, 0, none⟩ = some (.int .i64 xu) := c6
            have kd : Keeps (fun _ => True) Wr W6.drew := k6.trans (keeps_all (drew_below _ W6))
            clear c6 d6 v6 w1 w2
            refine region_round_held (S := fun w' => w'.cell? ⟨pb, 0, none⟩ = some (.int .i64 xu))
              (by kernel_rfl) (by repeat (first | exact round_lets | refine then_lets ?_ | refine block_lets ?_)) (by kernel_rfl) e6 (fun hHeld => ?_)
            generalize W6.drew = W7 at *
            have f0 := free_of_one r0
            have f1 := free_of_one r1
            have f2 := free_of_one r2
            have g0 := cell_of_one r0
            have g1 := cell_of_one r1
            have g2 := cell_of_one r2
            have k1 := setCell_keeps W7 w.heap.size (.int .i64 xn)
            have k2 := setCell_keeps (W7.setCell ⟨w.heap.size, 0, none⟩ (.int .i64 xn)) (w.heap.size + 1) (.int .i64 xu)
            have k3 := setCell_keeps ((W7.setCell ⟨w.heap.size, 0, none⟩ (.int .i64 xn)).setCell ⟨w.heap.size + 1, 0, none⟩ (.int .i64 xu)) (w.heap.size + 2) (.bool true)
            have s0 := one_setCell (u := .int .i64 xn) r0
            have t1 := k1.at r1 (by omega)
            have s1 := one_setCell (u := .int .i64 xu) t1
            have t2 := k2.at (k1.at r2 (by omega)) (by omega)
            have s2 := one_setCell (u := .bool true) t2
            have p1 := (k1.cell (p := ⟨pb, 0, none⟩) (by show pb < _; omega) (by show pb ≠ _; omega)).trans e6
            have p2 := (k2.cell (p := ⟨pb, 0, none⟩) (by show pb < _; have := k1.size; omega) (by show pb ≠ _; omega)).trans p1
            have p3 := (k3.cell (p := ⟨pb, 0, none⟩) (by show pb < _; have := k1.size; have := k2.size; omega) (by show pb ≠ _; omega)).trans p2
            have h1 := free_of_one t1
            have j1 := cell_of_one t1
            have h2 := free_of_one t2
            have j2 := cell_of_one t2
            have HE : Hid (roundEnd (fun _ => False) (WorstI w w.heap.size S) (fun _ _ _ => False) (s + 1) M Wr .normal { tmps := #[], defers := [] } (((W7.setCell ⟨w.heap.size, 0, none⟩ (.int .i64 xn)).setCell ⟨w.heap.size + 1, 0, none⟩ (.int .i64 xu)).setCell ⟨w.heap.size + 2, 0, none⟩ (.bool true))) := by
              have kk : Keeps (fun i => i < w.heap.size ∨ w.heap.size + 3 ≤ i) Wr (((W7.setCell ⟨w.heap.size, 0, none⟩ (.int .i64 xn)).setCell ⟨w.heap.size + 1, 0, none⟩ (.int .i64 xu)).setCell ⟨w.heap.size + 2, 0, none⟩ (.bool true)) :=
                (kd.mono fun _ _ _ => trivial).trans ((k1.mono fun i _ h5 => by omega).trans ((k2.mono fun i _ h5 => by omega).trans (k3.mono fun i _ h5 => by omega)))
              refine ⟨kk.mono fun i _ h5 => ?_, HLc.out.own (kk.mono fun i _ h5 => .inl h5), ?_, ?_, ?_, HS1.out⟩
              · rcases h5 with h5 | h5
                · exact h5.elim
                · exact .inr (HLc.out.out i h5)
              · rw [HTK.out, HSY.out]; exact k3.at (k2.at s0 (by omega)) (by omega)
              · rw [HTK.out, HSY.out]; exact k3.at s1 (by omega)
              · rw [HTK.out, HSY.out]; exact s2
            clear k1 k2 k3 s0 s1 s2 t1 t2 r0 r1 r2 kd e6
            refine wpAnyH_take (i := 0) (oi := { dst := some 32, op := Op.move (Operand.tmp 7), type := 3, pos := "group.go:96", after := #[], guard := none }) (v := ?v0s) rfl (by kernel_rfl) (by kernel_rfl) (by kernel_rfl) (fun _ _ _ h => h) (Or.inl ⟨by rfl, ?hy0s⟩) (by assumption) ?rest0s
            case hy0s =>
              intro w hSw
              try dsimp only at hSw
              go_simp
              try with_reducible rfl
            try simp only [Act.put, List.setIfInBounds_toArray, List.set_cons_zero, List.set_cons_succ]
            refine wpAnyH_take (i := 1) (oi := { dst := some 33, op := Op.fieldAddr 51 (Operand.tmp 8) 0, type := 0, pos := "group.go:96", after := #[{ on := 3, ground := Ground.gcOnly Departure.lateStores }], guard := none }) (v := ?v1s) rfl (by kernel_rfl) (by kernel_rfl) (by kernel_rfl) (fun _ _ _ h => h) (Or.inl ⟨by rfl, ?hy1s⟩) (by assumption) ?rest1s
            case hy1s =>
              intro w hSw
              try dsimp only at hSw
              go_simp
              try with_reducible rfl
            try simp only [Act.put, List.setIfInBounds_toArray, List.set_cons_zero, List.set_cons_succ]
            refine wpAnyH_take (i := 2) (oi := { dst := some 34, op := Op.load 3 (Operand.tmp 33), type := 3, pos := "group.go:96", after := #[{ on := 1, ground := Ground.data }, { on := 3, ground := Ground.gcOnly Departure.lateStores }], guard := none }) (v := ?v2s) rfl (by kernel_rfl) (by kernel_rfl) (by kernel_rfl) (fun _ _ _ h => h) (Or.inl ⟨by rfl, ?hy2s⟩) (by assumption) ?rest2s
            case hy2s =>
              intro w hSw
              try dsimp only at hSw
              go_simp
              try with_reducible rfl
            try simp only [Act.put, List.setIfInBounds_toArray, List.set_cons_zero, List.set_cons_succ]
            refine wpAnyH_ready (rs := [3]) (by kernel_rfl) (by simp) ?_
            refine AllReadyH.cons (o := { dst := none, op := Op.store 3 (Operand.tmp 4) (Operand.tmp 32), type := 0, pos := "group.go:96", after := #[{ on := 0, ground := Ground.data }, { on := 0, ground := Ground.phase }, { on := 1, ground := Ground.textOnly Departure.lateStores }, { on := 2, ground := Ground.textOnly Departure.lateStores }], guard := none }) rfl (fun KK9 hK9 => ?_) ?moreAs
            case moreAs => exact AllReadyH.nil
            go_simp
            refine hK9.out _ _ p1 (fun hHeld => ?_)
            clear hK9 KK9
            refine wpAnyH_ready (rs := [4]) (by kernel_rfl) (by simp) ?_
            refine AllReadyH.cons (o := { dst := none, op := Op.store 3 (Operand.tmp 5) (Operand.tmp 34), type := 0, pos := "group.go:96", after := #[{ on := 2, ground := Ground.data }, { on := 3, ground := Ground.chain }, { on := 0, ground := Ground.phase }, { on := 1, ground := Ground.phase }, { on := 2, ground := Ground.phase }, { on := 3, ground := Ground.phase }], guard := none }) rfl (fun KK9 hK9 => ?_) ?moreBs
            case moreBs => exact AllReadyH.nil
            go_simp
            refine hK9.out _ _ p2 (fun hHeld => ?_)
            clear hK9 KK9
            refine wpAnyH_ready (rs := [5]) (by kernel_rfl) (by simp) ?_
            refine AllReadyH.cons (o := { dst := none, op := Op.store 4 (Operand.tmp 6) (Operand.const (Value.bool true)), type := 0, pos := "group.go:96", after := #[{ on := 4, ground := Ground.chain }, { on := 0, ground := Ground.phase }, { on := 1, ground := Ground.phase }, { on := 2, ground := Ground.phase }, { on := 3, ground := Ground.phase }, { on := 4, ground := Ground.phase }], guard := none }) rfl (fun KK9 hK9 => ?_) ?moreCs
            case moreCs => exact AllReadyH.nil
            go_simp
            refine hK9.out _ _ p3 (fun hHeld => ?_)
            clear hK9 KK9
            refine wpAnyH_done (by kernel_rfl) ?_ _
            exact HE.out
          · have HST : stM isMid ltW (some b) ⟨xn, xu, xm⟩ = some b := by
              have : ltW ⟨xn, xu, xm⟩ b = false := by unfold ltW; rw [hbf2]; exact decide_eq_false hlt
              simp [stM, this]
            have HVX : Hid _ := v6
            clear v6
            have HE : Hid (roundEnd (fun _ => False) (WorstI w w.heap.size S) (fun _ _ _ => False) (s + 1) M Wr .normal { tmps := #[], defers := [] } W6) := by
              refine ⟨k6.mono fun i _ h5 => trivial, HLc.out.own (k6.mono fun i _ h5 => trivial), ?_, ?_, ?_, HS1.out⟩
              · rw [HTK.out, HST]; exact (k6.at HV.out.1 trivial)
              · rw [HTK.out, HST]; exact (k6.at HV.out.2.1 trivial)
              · rw [HTK.out, HST]; exact (k6.at HV.out.2.2 trivial)
            clear hkX
            gi_wp2
            exact HE.out
  case done =>
    rintro D s M W hD hdone hMD ⟨hlc, hv0, _, hv2, _⟩ hK
    have e : S.take s = S := List.take_of_length_le (by omega)
    rw [e, HEND.out] at hv0 hv2
    have c0 := cell_of_one hv0
    have c2 := cell_of_one hv2
    have hbel := hlc.bel
    have hsiz := hlc.siz
    have hout := hlc.out D hMD
    obtain ⟨A, hA⟩ : ∃ A, bN (worstD L) = A := ⟨_, rfl⟩
    obtain ⟨Z, hZ⟩ : ∃ Z, bS (worstD L) = Z := ⟨_, rfl⟩
    rw [hA] at c0
    rw [hZ] at c2
    have HA : Hid (bN (worstD L) = A) := hA
    have HZ : Hid (bS (worstD L) = Z) := hZ
    clear hA hZ
    clear hlc hv0 hv2 hdone
    gi_wp2_with fail
    gi_region
    gi_wp2
    refine ⟨by simp, .inl ⟨D, _, rfl, run_takeDeferred (w := W.drew) hK, ?_⟩⟩
    have hp := keeps_put W.drew D (.deferred none)
    rw [HA.out, HZ.out]
    exact ⟨_, results_tmp2 Try.results11 _ _ _, rfl, hbel.trans ((drew_below _ W).trans (hp.below (fun i h5 => by omega) (by show w.heap.size ≤ W.heap.size; omega)))⟩
  case stop =>
    rintro D k M W _ _ _ h _
    exact h.elim
end Go.Proofs.Ythjacjckobkhmaa
