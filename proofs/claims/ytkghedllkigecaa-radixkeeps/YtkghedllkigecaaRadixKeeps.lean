/- Proved: gunnylaw04.RadixKeeps returns true for all lists of deeds l and all deeds k: what is set is got, till it is set otherwise, or dropped; what others have is not changed; when all is dropped there are no nodes. No conditions. -/
import Derived.Test.YtkghedllkigecaaRBoth
import Derived.Test.YtkghedllkigecaaROpen
import Derived.Deep.RegionWith
import Derived.Deep.DeepCutAuto
namespace Go.Proofs.Ytkghedllkigecaa.RadixKeeps
open Go.ChangeShapes Go.WideShapes Go.ChangeAt Go.RowKit
set_option linter.unusedVariables false
theorem own : ownKnob Try.prog.godebug = none := by kernel_rfl
theorem laidOut : laidOutB Try.prog = true := by kernel_rfl
theorem frm_all {l : List KV} {z : Int} (hz : z ≤ 0) : frm l z = l := by
  apply List.filter_eq_self.2
  intro x _
  simp only [decide_eq_true_eq]; omega
theorem mem_setL {l : List KV} (h : Fine l) {z v : Int} {x : KV} (hx : x ∈ setL l z v) : (x.1 : Int) = z ∨ x ∈ l := by
  cases e : isK z with
  | false => rw [setL_bad e] at hx; exact .inr hx
  | true =>
    obtain ⟨k, rfl, hk⟩ := isK_of e
    rw [setL_nat hk] at hx
    rcases (mem_ins h).1 hx with rfl | h1
    · exact .inl rfl
    · exact .inr h1.1
theorem mem_dropL {l : List KV} (h : Fine l) {z : Int} {x : KV} (hx : x ∈ dropL l z) : x ∈ l ∧ (x.1 : Int) ≠ z := by
  unfold dropL at hx
  split at hx
  · rename_i e
    obtain ⟨k, rfl, hk⟩ := isK_of e
    obtain ⟨h1, h2⟩ := mem_del.1 hx
    exact ⟨h1, by simp at h2; omega⟩
  · rename_i e
    refine ⟨hx, fun c => e ?_⟩
    rw [← c]
    exact isK_nat (h.small x hx)
theorem got_set {l : List KV} (h : Fine l) (z v : Int) : got (setL l z v) z = if isK z then some v else none := by
  cases e : isK z with
  | false => simp [got, e]
  | true =>
    obtain ⟨k, rfl, hk⟩ := isK_of e
    rw [setL_nat hk, got_nat hk, if_pos rfl]
    exact val_of (h.ins hk v) ((mem_ins h).2 (.inl rfl))
/-- What a key of a list has once z was set. -/
theorem got_other {l : List KV} (h : Fine l) {z v : Int} {q : Nat} {r : Int} (hx : (q, r) ∈ l) : ∃ u, got (setL l z v) (q : Nat) = some u ∧ ((q : Int) ≠ z → u = r) := by
  have hq := h.small _ hx
  rw [got_nat hq]
  cases e : isK z with
  | false => rw [setL_bad e]; exact ⟨r, val_of h hx, fun _ => rfl⟩
  | true =>
    obtain ⟨k, rfl, hk⟩ := isK_of e
    rw [setL_nat hk]
    by_cases c : q = k
    · subst c
      exact ⟨v, val_of (h.ins hk v) ((mem_ins h).2 (.inl rfl)), fun x => absurd rfl x⟩
    · exact ⟨r, val_of (h.ins hk v) ((mem_ins h).2 (.inr ⟨hx, c⟩)), fun _ => rfl⟩

/-- A tree (at a) that has l, made since w, beside the deed that was handed in (in kb). -/
structure Held (w wr : World) (B kb : Nat) (a : Addr) (k0 key kv : Int) (l : List KV) : Prop where
  tree : TreeP B wr (some a) l
  box : wr.heap[kb]? = some (.cells #[.int .i64 k0, .int .i64 key, .int .u64 kv] 35 (0, 0))
  bel : Below w.heap.size w wr
  wB : w.heap.size ≤ B
  hi : B ≤ wr.heap.size
section
variable {w wr w' : World} {B kb : Nat} {a : Addr} {k0 key kv : Int} {l l' : List KV}
theorem Held.fine (h : Held w wr B kb a k0 key kv l) : Fine l := h.tree.fine
theorem Held.below (h : Held w wr B kb a k0 key kv l) (hb : Below wr.heap.size wr w') : Held w w' B kb a k0 key kv l :=
  ⟨h.tree.below hb, by rw [hb.block kb (Array.getElem?_eq_some_iff.1 h.box).1]; exact h.box, h.bel.trans (hb.mono h.bel.size), h.wB, Nat.le_trans h.hi hb.size⟩
theorem Held.drewN (h : Held w wr B kb a k0 key kv l) (m : Nat) : Held w (wr.drewN m) B kb a k0 key kv l := h.below (drewN_below _ _ _)
theorem Held.drew (h : Held w wr B kb a k0 key kv l) : Held w wr.drew B kb a k0 key kv l := h.below ⟨rfl, rfl, rfl, Nat.le_refl _, fun _ _ => rfl⟩
theorem Held.turned (h : Held w wr B kb a k0 key kv l) (ht : TreeP B w' (some a) l') (hk : Kept B wr w') : Held w w' B kb a k0 key kv l' :=
  ⟨ht, hk.other h.box (by decide) (by decide), h.bel.trans ((hk.below h.hi).mono h.wB), h.wB, Nat.le_trans h.hi hk.size⟩
theorem Held.cell1 (h : Held w wr B kb a k0 key kv l) : wr.cell? ⟨kb, 1, none⟩ = some (.int .i64 key) := by rw [cell_of_row wr kb 1 _ _ _ h.box]; rfl
theorem Held.cell2 (h : Held w wr B kb a k0 key kv l) : wr.cell? ⟨kb, 2, none⟩ = some (.int .u64 kv) := by rw [cell_of_row wr kb 2 _ _ _ h.box]; rfl
end
set_option maxRecDepth 100000 in
set_option maxHeartbeats 4000000 in
theorem run (a : Option Addr) (L c : Nat) (K N V : Nat → Int) (k0 key kv : Int) (w0 : World) (hL : L ≤ maxLen) (hz : DeedsAt w0 a L K N V) :
    Calls Try.prog 5 #[.slice a L c, .agg #[.int .i64 k0, .int .i64 key, .int .u64 kv]] w0 fun e w' => e = .returned (.bool true) ∧ Below w0.heap.size w0 w' := by
  unfold maxLen at hL
  have HZ : Hid (DeedsAt w0 a L K N V) := hz
  clear hz
  by_cases hlong : 100 < L
  · go_enter Try.func5, Try.ntmps5
    go_wp2_with fail
    refine (lives_any _).mono ?_
    rintro e w5 ⟨rfl, hb⟩
    go_wp2
    go_ret
    exact ⟨rfl, ((Below.refl _ w0).alloc (Nat.le_refl _) _).trans (hb.mono (by simp))⟩
  · go_enter Try.func5, Try.ntmps5
    go_wp2_with fail
    have hb0 : Below w0.heap.size w0 (w0.alloc (.cells #[.int .i64 k0, .int .i64 key, .int .u64 kv] 35)) := (Below.refl _ w0).alloc (Nat.le_refl _) _
    have hbx := heap_alloc_new w0 (.cells #[.int .i64 k0, .int .i64 key, .int .u64 kv] 35)
    generalize w0.alloc (.cells #[.int .i64 k0, .int .i64 key, .int .u64 kv] 35) = w1 at *
    refine (new_any w1).mono ?_
    rintro e w2 ⟨rfl, h2, b2⟩
    obtain ⟨kb, hkb⟩ : ∃ kb, w0.heap.size = kb := ⟨_, rfl⟩
    have H2 : Hid (Held w0 w2 w1.heap.size kb ⟨w1.heap.size, 0, none⟩ k0 key kv []) := by
      refine ⟨h2, ?_, hb0.trans (b2.mono hb0.size), hb0.size, b2.size⟩
      rw [← hkb, b2.block _ (Array.getElem?_eq_some_iff.1 hbx).1]; exact hbx
    rw [hkb]
    generalize w1.heap.size = B at *
    clear hb0 hbx h2 b2 hkb
    go_wp2_with fail
    go_loopw [6] (fun i wr => ∃ (k : Nat) (l : List KV), k ≤ L ∧ i = .int .i64 k ∧ Held w0 wr B kb ⟨B, 0, none⟩ k0 key kv l ∧ ∀ x ∈ l, ∃ j, j < k ∧ (x.1 : Int) = N j) (fun i _ => L - (intOf i).toNat)
    case atStart => exact ⟨0, [], Nat.zero_le _, rfl, H2.out, by simp⟩
    case round =>
      obtain ⟨k, l, hk, rfl, hh, hin⟩ := hrel
      have HH : Hid (Held w0 wr B kb ⟨B, 0, none⟩ k0 key kv l) := hh
      have HIN : Hid (∀ x ∈ l, ∃ j, j < k ∧ (x.1 : Int) = N j) := hin
      clear hin
      by_cases hlt : k < L
      · obtain ⟨bz, off, rfl, hbz, d0, d1, d2⟩ := HZ.out.later hh.bel (i := k) hlt
        obtain ⟨z, hz⟩ : ∃ z, N k = z := ⟨_, rfl⟩
        rw [hz] at d1
        have HZK : Hid _ := hz
        generalize V k = v at *
        have hlt' : (k : Int) < (L : Int) := by omega
        have HD : Hid (Held w0 wr.drew B kb ⟨B, 0, none⟩ k0 key kv l) := hh.drew
        clear hh hz
        go_wp2_with fail
        first | (go_region_with (go_at_call 8; refine (set_any z v _ HD.out.tree).mono ?_; rintro e w3 ⟨rfl, h3, k3⟩; have H3 : Hid _ := h3; have K3 : Hid _ := k3; clear h3 k3)) | (fail "the region")
        all_goals
          generalize isK z = kz at *
          go_wp2
          go_roundw
          case rel =>
            refine ⟨k + 1, _, by omega, by go_num, HD.out.turned H3.out K3.out, fun x hx => ?_⟩
            rcases mem_setL HD.out.fine hx with e | h
            · exact ⟨k, by omega, by rw [HZK.out]; exact e⟩
            · obtain ⟨j, hj, e⟩ := HIN.out x h
              exact ⟨j, by omega, e⟩
          case measure => simp [intOf]; omega
      · have e : k = L := by omega
        subst e
        have hlen := hh.fine.len
        have HFL : Hid (Fine l) := hh.fine
        have HV0 : Hid (upTo (-1) (frm l 0) = l) := by show _ = _; rw [frm_all (by omega)]; rfl
        clear hh
        go_wp2_with fail
        refine (from_any 0 (by omega) (-1) wr HH.out.tree).mono ?_
        rw [HV0.out]
        rintro e w4 ⟨v4, rfl, r4, b4⟩
        obtain ⟨a4, c4, rfl⟩ := row_slice r4
        obtain ⟨D, hD⟩ : ∃ D, wr.heap.size = D := ⟨_, rfl⟩
        rw [hD] at r4
        have H4 : Hid (Held w0 w4 B kb ⟨B, 0, none⟩ k0 key kv l) := HH.out.below b4
        have R4 : Hid (w4.ownsRow D 47 2 (.slice a4 l.length c4) l.length (kvv l)) := r4
        have x1 := H4.out.cell1
        have x2 := H4.out.cell2
        clear r4 b4 hD
        go_wp2_with fail
        refine (set_any key kv w4 H4.out.tree).mono ?_
        rintro e w5 ⟨rfl, h5, k5⟩
        have H5 : Hid (Held w0 w5 B kb ⟨B, 0, none⟩ k0 key kv (setL l key kv)) := H4.out.turned h5 k5
        have R5 : Hid (w5.ownsRow D 47 2 (.slice a4 l.length c4) l.length (kvv l)) := k5.row R4.out (by decide) (by decide)
        clear h5 k5 x1 x2
        have x1 := H5.out.cell1
        go_wp2_with fail
        refine (get_any key w5 H5.out.tree).mono ?_
        rw [got_set HFL.out]
        rintro e w6 ⟨rfl, b6⟩
        have H6 : Hid (Held w0 w6 B kb ⟨B, 0, none⟩ k0 key kv (setL l key kv)) := H5.out.below b6
        have R6 : Hid (w6.ownsRow D 47 2 (.slice a4 l.length c4) l.length (kvv l)) := row_below R5.out b6
        clear b6 x1
        have x1 := H6.out.cell1
        have x2 := H6.out.cell2
        obtain ⟨gv, hgv⟩ : ∃ x, (if isK key then some kv else none : Option Int).getD 0 = x := ⟨_, rfl⟩
        obtain ⟨gb, hgb⟩ : ∃ x, (if isK key then some kv else none : Option Int).isSome = x := ⟨_, rfl⟩
        obtain ⟨kz, hkz⟩ : ∃ x, isK key = x := ⟨_, rfl⟩
        rw [hgv, hgb, hkz]
        go_upto_region 11 with (fail)
        go_cut [86] (fun t wx => t = .bool false ∧ w6 = wx)
        case first =>
          by_cases y1 : 0 ≤ key
          · by_cases y2 : key < 65536
            · have y3 : isK key = true := by simp [isK]; omega
              rw [y3] at hgv hgb hkz
              cases hgv
              cases hgb
              cases hkz
              clear y3
              go_wp2
              go_meet
              exact ⟨rfl, rfl⟩
            · have y3 : isK key = false := by simp [isK]; omega
              rw [y3] at hgv hgb hkz
              cases hgv
              cases hgb
              cases hkz
              clear y3
              go_wp2
              go_meet
              exact ⟨rfl, rfl⟩
          · have y3 : isK key = false := by simp [isK]; omega
            rw [y3] at hgv hgb hkz
            cases hgv
            cases hgb
            cases hkz
            clear y3
            go_wp2
            go_meet
            exact ⟨rfl, rfl⟩
        case rest =>
          obtain ⟨rfl, rfl⟩ := hcut
          clear hgv hgb hkz
          go_wp2_with fail
          clear x1 x2
          go_loopw [12] (fun i wq => ∃ m : Nat, m ≤ l.length ∧ i = .int .i64 m ∧ Held w0 wq B kb ⟨B, 0, none⟩ k0 key kv (setL l key kv) ∧ wq.ownsRow D 47 2 (.slice a4 l.length c4) l.length (kvv l)) (fun i _ => l.length - (intOf i).toNat)
          case atStart => exact ⟨0, Nat.zero_le _, rfl, H6.out, R6.out⟩
          case round =>
            obtain ⟨m, hm, rfl, hq, hr⟩ := hrel
            have HQ : Hid (Held w0 wr B kb ⟨B, 0, none⟩ k0 key kv (setL l key kv)) := hq
            by_cases hlt2 : m < l.length
            · obtain ⟨g, rfl, c1, c2, _, hgl⟩ := row_at2 hr hlt2
              rw [(kvv_at l m hlt2).1] at c1
              rw [(kvv_at l m hlt2).2] at c2
              have hmem : (((l.getD m (0, 0)).1, (l.getD m (0, 0)).2) : KV) ∈ l := by
                have e1 : l.getD m (0, 0) = l[m] := by simp [List.getD, hlt2]
                rw [e1]; exact List.getElem_mem hlt2
              generalize (l.getD m (0, 0)).1 = q at *
              generalize (l.getD m (0, 0)).2 = r at *
              obtain ⟨u, hu1, hu2⟩ := got_other (z := key) (v := kv) HFL.out hmem
              have HU1 : Hid _ := hu1
              have RQ : Hid (wr.ownsRow D 47 2 (.slice (some ⟨g, 0, none⟩) l.length c4) l.length (kvv l)) := hr
              have hlt3 : (m : Int) < (l.length : Int) := by omega
              have HU2 : Hid _ := hu2
              clear hq hr hmem hu1 hu2
              go_wp2_with fail
              refine (get_any (q : Nat) wr HQ.out.tree).mono ?_
              rw [HU1.out]
              rintro e w7 ⟨rfl, b7⟩
              have H7 : Hid (Held w0 w7 B kb ⟨B, 0, none⟩ k0 key kv (setL l key kv)) := HQ.out.below b7
              have R7 : Hid (w7.ownsRow D 47 2 (.slice (some ⟨g, 0, none⟩) l.length c4) l.length (kvv l)) := row_below RQ.out b7
              have x1 := H7.out.cell1
              have g1 : w7.cell? ⟨g, m * 2, none⟩ = some (.int .i64 (q : Nat)) := by rw [← c1]; exact b7.cell (p := ⟨g, m * 2, none⟩) hgl
              have g2 : w7.cell? ⟨g, m * 2 + 1, none⟩ = some (.int .u64 r) := by rw [← c2]; exact b7.cell (p := ⟨g, m * 2 + 1, none⟩) hgl
              clear b7 c1 c2
              by_cases hqk : (q : Int) = key
              · go_wp2_with fail
                go_quiet (fail)
                go_wp2
                go_roundw
                case rel => exact ⟨m + 1, by omega, by go_num, H7.out.drewN _, row_below R7.out (drewN_below _ _ _)⟩
                case measure => simp [intOf]; omega
              · have hur := HU2.out hqk
                have hqb : ((q : Int) == key) = false := by rw [beq_eq_false_iff_ne]; exact hqk
                have hqd : decide ((q : Int) = key) = false := decide_eq_false hqk
                go_wp2_with fail
                go_quiet (fail)
                go_wp2
                go_roundw
                case rel => exact ⟨m + 1, by omega, by go_num, H7.out.drewN _, row_below R7.out (drewN_below _ _ _)⟩
                case measure => simp [intOf]; omega
            · have x1 := hq.cell1
              clear hr
              go_wp2_with fail
              refine (drop_any key wr HQ.out.tree).mono ?_
              rintro e w7 ⟨rfl, h7, k7⟩
              have H7 : Hid (Held w0 w7 B kb ⟨B, 0, none⟩ k0 key kv (dropL (setL l key kv) key)) := HQ.out.turned h7 k7
              have I7 : Hid (∀ x ∈ dropL (setL l key kv) key, ∃ j, 0 ≤ j ∧ j < k ∧ (x.1 : Int) = N j) := by
                intro x hx
                obtain ⟨h1, h2⟩ := mem_dropL HQ.out.fine hx
                rcases mem_setL HFL.out h1 with e | h3
                · exact absurd e h2
                · obtain ⟨j, hj, e⟩ := HIN.out x h3
                  exact ⟨j, Nat.zero_le _, hj, e⟩
              clear h7 k7 x1 hq
              generalize dropL (setL l key kv) key = l2 at *
              go_wp2_with fail
              go_loopw [15] (fun i wq => ∃ (m : Nat) (l3 : List KV), m ≤ k ∧ i = .int .i64 m ∧ Held w0 wq B kb ⟨B, 0, none⟩ k0 key kv l3 ∧ ∀ x ∈ l3, ∃ j, m ≤ j ∧ j < k ∧ (x.1 : Int) = N j) (fun i _ => k - (intOf i).toNat)
              case atStart => exact ⟨0, l2, Nat.zero_le _, rfl, H7.out, I7.out⟩
              case round =>
                obtain ⟨m3, l3, hm3, rfl, hq3, hi3⟩ := hrel
                have H3 : Hid (Held w0 wr B kb ⟨B, 0, none⟩ k0 key kv l3) := hq3
                have I3 : Hid (∀ x ∈ l3, ∃ j, m3 ≤ j ∧ j < k ∧ (x.1 : Int) = N j) := hi3
                clear hi3
                by_cases hlt4 : m3 < k
                · obtain ⟨bz, off, rfl, hbz, d0, d1, d2⟩ := HZ.out.later hq3.bel (i := m3) hlt4
                  obtain ⟨z, hz⟩ : ∃ z, N m3 = z := ⟨_, rfl⟩
                  rw [hz] at d1
                  have HZK : Hid _ := hz
                  have hlt5 : (m3 : Int) < (k : Int) := by omega
                  clear hq3 hz d0 d2
                  go_wp2_with fail
                  refine (drop_any z wr H3.out.tree).mono ?_
                  rintro e w8 ⟨rfl, h8, k8⟩
                  have H8 : Hid (Held w0 w8 B kb ⟨B, 0, none⟩ k0 key kv (dropL l3 z)) := H3.out.turned h8 k8
                  clear h8 k8
                  go_wp2
                  go_roundw
                  case rel =>
                    refine ⟨m3 + 1, _, by omega, by go_num, H8.out, fun x hx => ?_⟩
                    obtain ⟨h1, h2⟩ := mem_dropL H3.out.fine hx
                    obtain ⟨j, hj1, hj2, e⟩ := I3.out x h1
                    refine ⟨j, ?_, hj2, e⟩
                    by_cases ej : j = m3
                    · subst ej; rw [HZK.out] at e; exact absurd e h2
                    · omega
                  case measure => simp [intOf]; omega
                · have hl3 : l3 = [] := by
                    apply List.eq_nil_iff_forall_not_mem.2
                    intro x hx
                    obtain ⟨j, hj1, hj2, _⟩ := I3.out x hx
                    omega
                  subst hl3
                  have x1 := hq3.cell1
                  clear hq3
                  have HGN : Hid (got [] key = none) := by show _ = _; unfold got; split <;> rfl
                  have HDN : Hid (dropL [] key = []) := by show _ = _; unfold dropL; split <;> rfl
                  go_wp2_with fail
                  refine (drop_any key wr H3.out.tree).mono ?_
                  rw [HGN.out, HDN.out]
                  rintro e w9 ⟨rfl, h9, k9⟩
                  have H9 : Hid (Held w0 w9 B kb ⟨B, 0, none⟩ k0 key kv []) := H3.out.turned h9 k9
                  clear h9 k9 x1
                  go_wp2_with fail
                  refine (len_any w9 H9.out.tree).mono ?_
                  rintro e w10 ⟨rfl, rfl⟩
                  go_wp2_with fail
                  refine (nodes_any w9 H9.out.tree).mono ?_
                  rintro e w10 ⟨rfl, rfl⟩
                  rw [show ((nodesOf [] : Nat) : Int) = 0 from rfl]
                  go_wp2_with fail
                  refine (lives_any w9).mono ?_
                  rintro e w11 ⟨rfl, b11⟩
                  go_wp2
                  go_ret
                  exact ⟨rfl, H9.out.bel.trans (b11.mono H9.out.bel.size)⟩

theorem walk {H : Type} {enc : TypeId × Value → H} {w : World} {base : Nat} {v0 v1 : Value} {d0 d1 : DataW H} {p0 p1 : List MemPlace}
    (o0 : Value.okWide Try.prog w .any base 22 v0) (o1 : Value.okWide Try.prog w .any base 35 v1)
    (h0 : DataW.Trod enc Try.prog w 0 (fun _ => true) true 22 v0 d0 p0) (h1 : DataW.Trod enc Try.prog w 0 (fun _ => true) true 35 v1 d1 p1) :
    Calls Try.prog 5 #[v0, v1] w fun e w' => e = .returned (.bool true) ∧ Below w.heap.size w w' := by
  obtain ⟨a, L, c, K, N, V, rfl, hL, hz⟩ := openDeeds Try.underlying22 Try.underlying35 (by kernel_rfl) rfl rfl rfl (by kernel_rfl) (by kernel_rfl) (by kernel_rfl) Try.underlying3 Try.underlying3 Try.underlying27 o0 h0
  obtain ⟨k0, key, kv, rfl⟩ := openDeed Try.underlying35 (by kernel_rfl) (by kernel_rfl) Try.underlying3 Try.underlying3 Try.underlying27 o1 h1
  exact run a L c K N V k0 key kv w hL hz

set_option maxRecDepth 100000 in
theorem lifted (os : Os) (started : os.Started) (H : Type) (enc : TypeId × Value → H) :
    ReturnsInHanded {} Try.checked os 5 .any (Rows.radixKeepsSpec.pre6 enc Try.prog Try.f5 Rows.radixKeepsRow.domain false) (Rows.radixKeepsSpec.post enc Try.prog Try.f5 false true false false) := by
  refine returnsInHanded_of_change (C := Try.checked) own started (by kernel_rfl) Try.func5
    (ChangeSpec.witness6 (enc := enc) (C := Try.checked) false ⟨#[], #[.slice none 0 0, .agg #[.int .i64 0, .int .i64 0, .int .u64 0]], []⟩ 8 (by kernel_rfl) (by kernel_rfl) (by kernel_rfl) (by kernel_rfl)) ?_
  intro W base args ds gs before hval0 hW hcnd _
  have hval : ∀ (j : Nat) t v, Try.f5.params[j]? = some t → args[j]? = some v → Value.okWide Try.prog W .any base t v := hval0
  have hW' := hW
  obtain ⟨p, q, hA0, hV, rfl, hfz, hnd⟩ := hW
  have hA : DataW.TrodAll enc Try.prog W 0 (fun _ => true) true Try.f5.params.toList args.toList ds p := hA0
  rw [Try.params5] at hA hval
  obtain ⟨v0, vs0, d0, ds0, p0, q0, hargs, rfl, rfl, h0, r0⟩ := trodAll_cons hA
  obtain ⟨v1, vs1, d1, ds1, p1, q1, rfl, rfl, rfl, h1, r1⟩ := trodAll_cons r0
  obtain ⟨rfl, rfl, rfl⟩ := trodAll_nil r1
  obtain rfl : args = #[v0, v1] := by cases args; simp_all
  obtain ⟨rfl, rfl⟩ := trodVars_none hV
  have o0 := hval 0 22 v0 rfl rfl
  have lt0 : ∀ x ∈ p0, x.block < W.heap.size := by obtain ⟨m, hm⟩ := h0; exact DataW.trod_lt m _ _ _ hm
  have o1 := hval 1 35 v1 rfl rfl
  have lt1 : ∀ x ∈ p1, x.block < W.heap.size := by obtain ⟨m, hm⟩ := h1; exact DataW.trod_lt m _ _ _ hm
  clear hA0 hval0
  refine (walk o0 o1 h0 h1).mono fun e W' ⟨he, bel⟩ => ?_
  subst he
  exact ⟨_, rfl, _, _, _, [], _, [], hW', trodAll_mk1 (shut_bool Try.underlying4 _), (trodAll_cons_mk (Below.trod laidOut (by kernel_rfl) (of_decide_eq_true (by kernel_rfl)) h0 bel lt0) (trodAll_cons_mk (Below.trod laidOut (by kernel_rfl) (of_decide_eq_true (by kernel_rfl)) h1 bel lt1) trodAll_mk0)), rfl, bel.frame _, fun h => by cases h⟩

theorem over : Rows.radixKeepsRow.holds Try.pinned (OpenSpec.ofChange Rows.radixKeepsSpec) :=
  OpenClaim.holds_of_wide 5 Try.f5 rfl rfl rfl rfl rfl rfl rfl ⟨rfl, rfl, rfl, rfl, rfl⟩ rfl rfl rfl rfl rfl (by kernel_rfl) Try.func5 (by kernel_rfl)
    (of_decide_eq_true (by kernel_rfl)) (by unfold Func.isWrapper; first | (rw [if_pos (by decide +kernel)]; kernel_rfl) | (rw [if_neg (by decide +kernel)]; exact ⟨rfl, rfl⟩))
    (fun os started H enc _ => lifted os started H enc)
end Go.Proofs.Ytkghedllkigecaa.RadixKeeps
namespace Go.Proofs.Ytkghedllkigecaa
/-- The statement. -/
theorem radixKeeps_holds : Rows.RadixKeepsSaid := RadixKeeps.over
#print axioms radixKeeps_holds
end Go.Proofs.Ytkghedllkigecaa
