/- Proved: gunnylaw17.InnerLists returns true for all classes, all deeds and all bytes written over. No conditions. -/
import Derived.Test.YtjgkhckcoknnfaaZ7
import Derived.Test.YtjgkhckcoknnfaaZ5
import Derived.Deep.LoopGhost
namespace Go.Proofs.Ytjgkhckcoknnfaa.InnerLists
open Go.ChangeShapes Go.WideShapes Go.ChangeAt Go.RowKit
set_option linter.unusedVariables false
theorem own : ownKnob Try.prog.godebug = none := by kernel_rfl
theorem laidOut : laidOutB Try.prog = true := by kernel_rfl
set_option maxHeartbeats 400000 in
theorem refInts_no {B g : Nat} {v : Value} {T : List Nat} (w : World) (h : w.ownsRow B 3 1 v T.length (fiv T)) (hl : T.length ≤ 4096) (hg : w.cell? ⟨g, 0, none⟩ = some (.int .i64 (-1))) :
    Calls Try.prog 26 #[v, .slice (some ⟨g, 0, none⟩) 1 1] w fun e w' => e = .returned (.bool false) ∧ ∃ m, w' = w.drewN m := by
  obtain ⟨a, c, rfl⟩ := row_slice h
  have H : Hid (w.ownsRow B 3 1 (.slice a T.length c) T.length (fiv T)) := h
  clear h
  by_cases h1 : T.length = 1
  · obtain ⟨ga, rfl, hc, _⟩ := row_at H.out (show 0 < T.length by omega)
    rw [fiv_at T 0 (by omega)] at hc
    have hq : (T.getD 0 0 : Int) ≠ -1 := by omega
    have hq1 : (((T.getD 0 0 : Nat) : Int) != -1) = true := by rw [bne_iff_ne]; exact hq
    generalize T.getD 0 0 = q at *
    generalize T.length = tl at *
    subst h1
    go_enter Try.func26, Try.ntmps26
    go_wp2_with fail
    go_loopg [5] 1 (fun gk i wr => gk = 1 ∧ i = .int .i64 0 ∧ w = wr)
    case atStart => exact ⟨rfl, rfl, rfl⟩
    case round =>
      obtain ⟨rfl, rfl, rfl⟩ := hrel
      go_wp2_with fail
      go_quiet (fail)
      go_wp2
      go_ret
      exact ⟨rfl, _, rfl⟩
  · have i1 : ((T.length : Int) != 1) = true := by rw [bne_iff_ne]; omega
    have i2 : ¬ T.length = 1 := h1
    generalize T.length = tl at *
    go_enter Try.func26, Try.ntmps26
    go_wp2
    go_ret
    exact ⟨rfl, 0, rfl⟩
/-- Bytes written over, of a frame of the row. -/
theorem PGok.over {R : RS} {G : PG} (h : PGok R G) {f z : Nat} {b : List Nat} (hf : f < G.F.length) (hz : z + b.length ≤ 4096) : PGok (R.wr ((rowL G.F).getD f 0) (z : Int) b) G := ⟨h.cls, h.row.wr h.row hf hz, h.fl, h.xl⟩
set_option maxRecDepth 100000 in
set_option maxHeartbeats 8000000 in
theorem run (cB xa xw : Nat) (p : Option Addr) (n c : Nat) (bs : List Nat) (w : World) (hcB : cB < 256) (hxa : xa < 65536) (hxw : xw < 65536) (hby : ByAt w p n c bs) :
    Calls Try.prog 5 #[.int .u8 (cB : Nat), .slice p n c, .agg #[.int .u16 (xa : Nat), .int .u16 (xw : Nat)]] w fun e w' => e = .returned (.bool true) ∧ Below w.heap.size w w' := by
  obtain ⟨W, hW⟩ : ∃ W, w.alloc (.cells #[.int .u16 (xa : Nat), .int .u16 (xw : Nat)] 57) = W := ⟨_, rfl⟩
  have hbW : Below w.heap.size w W := by rw [← hW]; exact (Below.refl _ w).alloc (Nat.le_refl _) _
  have hxW : W.heap[w.heap.size]? = some (.cells #[.int .u16 (xa : Nat), .int .u16 (xw : Nat)] 57 (0, 0)) := by rw [← hW]; exact heap_alloc_new _ _
  have y0 : W.cell? ⟨w.heap.size, 0, none⟩ = some (.int .u16 (xa : Nat)) := by rw [cell_of_row W _ _ _ _ _ hxW]; rfl
  have y1 : W.cell? ⟨w.heap.size, 1, none⟩ = some (.int .u16 (xw : Nat)) := by rw [cell_of_row W _ _ _ _ _ hxW]; rfl
  have HBD : Hid (∀ m, Below w.heap.size w (W.drewN m)) := fun m => hbW.trans ((drewN_below W.heap.size W m).mono hbW.size)
  have HBY : Hid (ByAt w p n c bs) := hby
  have HLN : Hid (bs.length = n) := hby.len
  have hnm := hby.short
  unfold maxLen at hnm
  obtain ⟨cl, hcl⟩ : ∃ cl, cB % 64 = cl := ⟨_, rfl⟩
  have hm1 : (cB : Int) % 64 = (cl : Nat) := by omega
  have hcl64 : cl < 64 := by omega
  have HCL : Hid (cl < 64) := hcl64
  clear hbW hxW hby hcl
  by_cases h100 : 100 < n
  · have i1 : (100 : Int) < (n : Int) := by omega
    go_enter Try.func5, Try.ntmps5
    go_upto_region 1 with (fail)
    go_quiet (fail)
    go_wp2_with fail
    refine (lives_any _).mono ?_
    rintro e wl ⟨rfl, bl⟩
    have HBL : Hid (Below w.heap.size w wl) := (HBD.out _).trans (bl.mono (HBD.out _).size)
    clear bl
    go_wp2
    go_ret
    exact ⟨rfl, HBL.out⟩
  · have i1 : ¬ (100 : Int) < (n : Int) := by omega
    have hn100 : n ≤ 100 := by omega
    go_enter Try.func5, Try.ntmps5
    go_upto_region 1 with (fail)
    go_quiet (fail)
    go_wp2_with fail
    refine (wNew 8 (by omega) (by omega) _).mono ?_
    rintro e w1 ⟨r, rfl, hram, hb⟩
    have HB1 : Hid (Below w.heap.size w w1) := (HBD.out _).trans (hb.mono (HBD.out _).size)
    rw [heap_drewN] at hram
    have HR1 : Hid (RamAt W.heap.size w1.heap.size w1 r (RS.new 8)) := hram
    have HWS : Hid (w.heap.size ≤ W.heap.size ∧ W.heap.size ≤ w1.heap.size) := ⟨(HBD.out 0).size, hb.size⟩
    have HS1 : Hid ((RS.new 8).S.length = 8) := by show (fdown 8).length = 8; exact fdown_len 8
    generalize W.heap.size = B at HR1 HWS
    clear hram hb
    go_wp2_with fail
    refine (make_z HCL.out (by rw [HS1.out]; have := (jFr_le HCL.out).2; omega) w1 HR1.out).mono ?_
    rintro e w2 ⟨q, R2, G, rfl, hp, ram2, hg, hc, hx, hm, ht⟩
    have HP2 : Hid (PageZ w1.heap.size w2.heap.size w2 q G) := hp
    have HR2 : Hid (RamAt B w1.heap.size w2 r R2) := ram2
    have HG2 : Hid (GoodP R2 G (List.range (jObj cl (jFr cl)))) := hg
    have HB2 : Hid (Below w.heap.size w w2) := HB1.out.trans ((ht.wide (Nat.le_refl _) (Nat.le_refl _)).below HWS.out.2 |>.mono HWS.out.1)
    have HLL : Hid ((List.range (jObj cl (jFr cl))).length = G.x.length) := by show _ = _; rw [List.length_range, hx, List.length_replicate]
    obtain ⟨E, hE⟩ : ∃ E, w1.heap.size = E := ⟨_, rfl⟩
    obtain ⟨D, hD⟩ : ∃ D, w2.heap.size = D := ⟨_, rfl⟩
    have HBE : Hid (w.heap.size ≤ B ∧ B ≤ E ∧ E ≤ D) := ⟨HWS.out.1, by rw [← hE]; exact HWS.out.2, by rw [← hE, ← hD]; exact ht.size⟩
    have HD2 : Hid (D ≤ w2.heap.size) := by show _ ≤ _; rw [hD]; exact Nat.le_refl _
    rw [hE] at HR2
    rw [hE, hD] at HP2
    generalize List.range (jObj cl (jFr cl)) = L at HG2 HLL
    clear hp ram2 hg hc hx hm ht hE hD HR1 HWS HS1 HB1
    go_wp2_with fail
    go_loopg [13, 14] n (fun gk u i wr => ∃ (k : Nat) (R : RS) (G : PG) (L : List Nat) (xs : List Nat) (v : Value), k ≤ n ∧ gk = n - k ∧ v = u ∧ i = .int .i64 k ∧ PageZ E D wr q G ∧ RamAt B E wr r R ∧ GoodP R G L ∧ OutAt wr D v xs ∧ xs.Nodup ∧
      (∀ m ∈ xs, m < G.x.length ∧ G.x.getD m false = true) ∧ Below w.heap.size w wr ∧ D ≤ wr.heap.size)
    case atStart => exact ⟨0, R2, G, L, [], _, by omega, rfl, rfl, rfl, HP2.out, HR2.out, HG2.out, OutAt.nil _ _, List.nodup_nil, fun _ h => (by cases h), HB2.out, HD2.out⟩
    case round =>
      obtain ⟨k, R, G, L, xs, v, hk, rfl, rfl, rfl, hp, hram, hg, hout, hnd, htk, hbel, hDw⟩ := hrel
      have HP : Hid (PageZ E D wr q G) := hp
      have HR : Hid (RamAt B E wr r R) := hram
      have HG : Hid (GoodP R G L) := hg
      have HO : Hid (OutAt wr D v xs) := hout
      have HND : Hid (xs.Nodup) := hnd
      have HTK : Hid (∀ m ∈ xs, m < G.x.length ∧ G.x.getD m false = true) := htk
      have HBL : Hid (Below w.heap.size w wr) := hbel
      have HDW : Hid (D ≤ wr.heap.size) := hDw
      have hxl : xs.length ≤ 256 := Nat.le_trans (fo_nodup _ _ hnd fun m hm => (htk m hm).1) hg.ok.many
      obtain ⟨oa, oc, hv⟩ := hout.form
      subst hv
      clear hp hram hg hout hnd htk hbel hDw
      have HDD : Hid (D ≤ B ∨ E ≤ E) := .inr (Nat.le_refl _)
      by_cases hlt : k < n
      · have i2 : (k : Int) < (n : Int) := by omega
        obtain ⟨g0, o0, rfl, hg0, hc0⟩ := HBY.out.at (show 0 < n by omega)
        have hcell := hc0 k hlt
        have hbk : bs.getD k 0 < 256 := getD_byte HBY.out.byte k
        have c0 : wr.cell? ⟨g0, o0 + k, none⟩ = some (.int .u8 (bs.getD k 0 : Nat)) := (HBL.out.cell (p := ⟨g0, o0 + k, none⟩) hg0).trans hcell
        generalize bs.getD k 0 = b at c0 hbk
        clear hc0 hcell
        by_cases hgv : b % 3 = 0 ∧ xs ≠ []
        · obtain ⟨h3, hne⟩ := hgv
          have i3 : ((b : Int) % 3 == 0) = true := by rw [beq_iff_eq]; omega
          obtain ⟨x, xs, rfl⟩ := List.exists_cons_of_ne_nil hne
          have i4 : (0 : Int) < ((x :: xs).length : Int) := by rw [List.length_cons]; omega
          obtain ⟨go, oo, oc', ho1, ho2, ho3, ho4⟩ := HO.out.head
          obtain ⟨v', htail, hout'⟩ := HO.out.tail
          obtain ⟨oa', oc'', hv'⟩ := hout'.form
          obtain ⟨hx1, hx2⟩ := HTK.out x (by simp)
          have HX1 : Hid (x < G.x.length) := hx1
          have HX2 : Hid (G.x.getD x false = true) := hx2
          have HOT : Hid (OutAt wr D v' xs) := hout'
          simp only [Value.slice.injEq, List.length_cons, true_and] at ho1
          obtain ⟨rfl, rfl⟩ := ho1
          rw [List.length_cons] at i4 htail ⊢
          clear hne hx1 hx2 hout' hv'
          go_wp2_with fail
          refine (give_z HG.out HX1.out HX2.out wr HP.out HR.out HDD.out).mono ?_
          rintro e w5 ⟨R5, G5, rfl, ram5, hw5, hp5, hg5, hsm5, hx5, hk5⟩
          have HP5 : Hid (PageZ E D w5 q G5) := hp5
          have HR5 : Hid (RamAt B E w5 r R5) := ram5
          have HG5 : Hid (GoodP R5 G5 (x :: L)) := hg5
          have HB5 : Hid (Below w.heap.size w w5) := HBL.out.trans (off_below hk5 HBE.out.1 (Nat.le_trans HBE.out.1 HBE.out.2.1) HBL.out.size)
          have HO5 : Hid (OutAt w5 D v' xs) := HOT.out.kept hk5 fun i hi => ⟨.inr (Nat.le_trans HBE.out.2.2 hi), .inr hi⟩
          have HN5 : Hid (xs.Nodup) := (List.nodup_cons.1 HND.out).2
          have HD5 : Hid (D ≤ w5.heap.size) := Nat.le_trans HDW.out hk5.size
          have HT5 : Hid (∀ m ∈ xs, m < G5.x.length ∧ G5.x.getD m false = true) := fun m hm => by
            obtain ⟨h1, h2⟩ := HTK.out m (by simp [hm])
            have hne : x ≠ m := fun e => (List.nodup_cons.1 HND.out).1 (e ▸ hm)
            rw [hx5, len_putL]
            exact ⟨h1, by rw [put_at _ _ _ _ HX1.out, if_neg hne]; exact h2⟩
          clear ram5 hw5 hp5 hg5 hsm5 hx5 hk5
          go_wp2
          go_roundg (n - (k + 1))
          case measure => omega
          case rel => exact ⟨k + 1, R5, G5, _, xs, v', by omega, rfl, rfl, by go_num, HP5.out, HR5.out, HG5.out, HO5.out, HN5.out, HT5.out, HB5.out, HD5.out⟩
        · by_cases h3 : b % 3 = 0
          · have hnil : xs = [] := by
              cases xs with
              | nil => rfl
              | cons y ys => exact absurd ⟨h3, by simp⟩ hgv
            have i3 : ((b : Int) % 3 == 0) = true := by rw [beq_iff_eq]; omega
            have i4 : ¬ (0 : Int) < (xs.length : Int) := by rw [hnil]; simp
            clear hnil hgv
            generalize hxll : xs.length = xl at *
            have HXL : Hid (xs.length = xl) := hxll
            clear hxll
            cases L with
            | nil =>
              go_wp2_with fail
              refine (takeNone_z HG.out (.pointer (some ⟨r, 0, none⟩)) wr HP.out).mono ?_
              rintro e w5 ⟨rfl, m5, rfl⟩
              have HBD5 : Hid (Below wr.heap.size wr (wr.drewN m5)) := drewN_below _ _ _
              go_wp2
              go_roundg (n - (k + 1))
              case measure => omega
              case rel => exact ⟨k + 1, R, G, [], xs, _, by omega, rfl, rfl, by go_num, HP.out.below HBD5.out, HR.out.below HBD5.out, HG.out, HO.out.kept (keeps_all HBD5.out : Keeps (fun _ => True) _ _) (fun _ _ => trivial), HND.out, HTK.out, HBL.out.trans (HBD5.out.mono HBL.out.size), Nat.le_trans HDW.out HBD5.out.size⟩
            | cons m L =>
              obtain ⟨hmx, hm0⟩ := (HG.out.mem m).1 (by simp)
              go_wp2_with fail
              refine (take_z HG.out wr HP.out HR.out HDD.out).mono ?_
              rintro e w5 ⟨R5, G5, rfl, ram5, st5, hp5, hg5, hsm5, hx5, hk5⟩
              have HP5 : Hid (PageZ E D w5 q G5) := hp5
              have HR5 : Hid (RamAt B E w5 r R5) := ram5
              have HG5 : Hid (GoodP R5 G5 L) := hg5
              have HB5 : Hid (Below w.heap.size w w5) := HBL.out.trans (off_below hk5 HBE.out.1 (Nat.le_trans HBE.out.1 HBE.out.2.1) HBL.out.size)
              have HO5 : Hid (OutAt w5 D (.slice oa xl oc) xs) := HO.out.kept hk5 fun i hi => ⟨.inr (Nat.le_trans HBE.out.2.2 hi), .inr hi⟩
              have HD5 : Hid (D ≤ w5.heap.size) := Nat.le_trans HDW.out hk5.size
              have HN5 : Hid ((xs ++ [m]).Nodup) := by
                show List.Nodup _
                rw [List.nodup_append]
                refine ⟨HND.out, by simp, fun a ha b hb e => ?_⟩
                have hbm : b = m := by simpa using hb
                subst hbm e
                have := (HTK.out a ha).2
                rw [hm0] at this
                cases this
              have HT5 : Hid (∀ j ∈ xs ++ [m], j < G5.x.length ∧ G5.x.getD j false = true) := fun j hj => by
                rw [hx5, len_putL, put_at _ _ _ _ hmx]
                rcases List.mem_append.1 hj with h1 | h1
                · obtain ⟨h2, h4⟩ := HTK.out j h1
                  refine ⟨h2, ?_⟩
                  split
                  · rfl
                  · exact h4
                · obtain rfl : j = m := by simpa using h1
                  exact ⟨hmx, if_pos rfl⟩
              clear ram5 st5 hp5 hg5 hsm5 hx5 hk5
              have HBA : Hid (Below w5.heap.size w5 (w5.alloc (.cells #[.int .i64 (m : Nat)] 3))) := (Below.refl _ w5).alloc (Nat.le_refl _) _
              go_wp2_with (at_builtin; refine wpList_append_out rfl _ _ rfl rfl (HO5.out.kept (keeps_all HBA.out : Keeps (fun _ => True) _ _) (fun _ _ => trivial)) ⟨w5.heap.size, 0, none⟩ 1 rfl (cell_one_new w5 _ _) (by rw [HXL.out]; omega) (Nat.le_trans HD5.out HBA.out.size) ?_)
              intro v6 w6 out6 k6
              have hb56 : Below D w5 w6 := (HBA.out.mono HD5.out).trans (k6.below (fun _ h => h) (Nat.le_trans HD5.out HBA.out.size))
              have HP6 : Hid (PageZ E D w6 q G5) := HP5.out.kept hb56.size fun i _ h2 => hb56.block i h2
              have HR6 : Hid (RamAt B E w6 r R5) := HR5.out.kept hb56.size fun i _ h2 => hb56.block i (Nat.lt_of_lt_of_le h2 HBE.out.2.2)
              have HO6 : Hid (OutAt w6 D v6 (xs ++ [m])) := out6
              have HB6 : Hid (Below w.heap.size w w6) := HB5.out.trans (hb56.mono (Nat.le_trans HBE.out.1 (Nat.le_trans HBE.out.2.1 HBE.out.2.2)))
              have HD6 : Hid (D ≤ w6.heap.size) := Nat.le_trans HD5.out hb56.size
              clear out6 k6 hb56
              go_wp2
              go_roundg (n - (k + 1))
              case measure => omega
              case rel => exact ⟨k + 1, R5, G5, L, xs ++ [m], v6, by omega, rfl, rfl, by go_num, HP6.out, HR6.out, HG5.out, HO6.out, HN5.out, HT5.out, HB6.out, HD6.out⟩
          · have i3 : ((b : Int) % 3 == 0) = false := by rw [beq_eq_false_iff_ne]; omega
            clear hgv
            generalize hxll : xs.length = xl at *
            have HXL : Hid (xs.length = xl) := hxll
            clear hxll
            cases L with
            | nil =>
              go_wp2_with fail
              refine (takeNone_z HG.out (.pointer (some ⟨r, 0, none⟩)) wr HP.out).mono ?_
              rintro e w5 ⟨rfl, m5, rfl⟩
              have HBD5 : Hid (Below wr.heap.size wr (wr.drewN m5)) := drewN_below _ _ _
              go_wp2
              go_roundg (n - (k + 1))
              case measure => omega
              case rel => exact ⟨k + 1, R, G, [], xs, _, by omega, rfl, rfl, by go_num, HP.out.below HBD5.out, HR.out.below HBD5.out, HG.out, HO.out.kept (keeps_all HBD5.out : Keeps (fun _ => True) _ _) (fun _ _ => trivial), HND.out, HTK.out, HBL.out.trans (HBD5.out.mono HBL.out.size), Nat.le_trans HDW.out HBD5.out.size⟩
            | cons m L =>
              obtain ⟨hmx, hm0⟩ := (HG.out.mem m).1 (by simp)
              go_wp2_with fail
              refine (take_z HG.out wr HP.out HR.out HDD.out).mono ?_
              rintro e w5 ⟨R5, G5, rfl, ram5, st5, hp5, hg5, hsm5, hx5, hk5⟩
              have HP5 : Hid (PageZ E D w5 q G5) := hp5
              have HR5 : Hid (RamAt B E w5 r R5) := ram5
              have HG5 : Hid (GoodP R5 G5 L) := hg5
              have HB5 : Hid (Below w.heap.size w w5) := HBL.out.trans (off_below hk5 HBE.out.1 (Nat.le_trans HBE.out.1 HBE.out.2.1) HBL.out.size)
              have HO5 : Hid (OutAt w5 D (.slice oa xl oc) xs) := HO.out.kept hk5 fun i hi => ⟨.inr (Nat.le_trans HBE.out.2.2 hi), .inr hi⟩
              have HD5 : Hid (D ≤ w5.heap.size) := Nat.le_trans HDW.out hk5.size
              have HN5 : Hid ((xs ++ [m]).Nodup) := by
                show List.Nodup _
                rw [List.nodup_append]
                refine ⟨HND.out, by simp, fun a ha b hb e => ?_⟩
                have hbm : b = m := by simpa using hb
                subst hbm e
                have := (HTK.out a ha).2
                rw [hm0] at this
                cases this
              have HT5 : Hid (∀ j ∈ xs ++ [m], j < G5.x.length ∧ G5.x.getD j false = true) := fun j hj => by
                rw [hx5, len_putL, put_at _ _ _ _ hmx]
                rcases List.mem_append.1 hj with h1 | h1
                · obtain ⟨h2, h4⟩ := HTK.out j h1
                  refine ⟨h2, ?_⟩
                  split
                  · rfl
                  · exact h4
                · obtain rfl : j = m := by simpa using h1
                  exact ⟨hmx, if_pos rfl⟩
              clear ram5 st5 hp5 hg5 hsm5 hx5 hk5
              have HBA : Hid (Below w5.heap.size w5 (w5.alloc (.cells #[.int .i64 (m : Nat)] 3))) := (Below.refl _ w5).alloc (Nat.le_refl _) _
              go_wp2_with (at_builtin; refine wpList_append_out rfl _ _ rfl rfl (HO5.out.kept (keeps_all HBA.out : Keeps (fun _ => True) _ _) (fun _ _ => trivial)) ⟨w5.heap.size, 0, none⟩ 1 rfl (cell_one_new w5 _ _) (by rw [HXL.out]; omega) (Nat.le_trans HD5.out HBA.out.size) ?_)
              intro v6 w6 out6 k6
              have hb56 : Below D w5 w6 := (HBA.out.mono HD5.out).trans (k6.below (fun _ h => h) (Nat.le_trans HD5.out HBA.out.size))
              have HP6 : Hid (PageZ E D w6 q G5) := HP5.out.kept hb56.size fun i _ h2 => hb56.block i h2
              have HR6 : Hid (RamAt B E w6 r R5) := HR5.out.kept hb56.size fun i _ h2 => hb56.block i (Nat.lt_of_lt_of_le h2 HBE.out.2.2)
              have HO6 : Hid (OutAt w6 D v6 (xs ++ [m])) := out6
              have HB6 : Hid (Below w.heap.size w w6) := HB5.out.trans (hb56.mono (Nat.le_trans HBE.out.1 (Nat.le_trans HBE.out.2.1 HBE.out.2.2)))
              have HD6 : Hid (D ≤ w6.heap.size) := Nat.le_trans HD5.out hb56.size
              clear out6 k6 hb56
              go_wp2
              go_roundg (n - (k + 1))
              case measure => omega
              case rel => exact ⟨k + 1, R5, G5, L, xs ++ [m], v6, by omega, rfl, rfl, by go_num, HP6.out, HR6.out, HG5.out, HO6.out, HN5.out, HT5.out, HB6.out, HD6.out⟩
      · have e : k = n := by omega
        subst e
        have i2 : ¬ (k : Int) < (k : Int) := by omega
        have hfl := HG.out.fl
        have HG1 : Hid (G.f ≤ 256) := HG.out.first
        have HF4 : Hid (G.F.length ≤ 4) := hfl.2
        have hmany := HG.out.ok.many
        generalize hnF : G.F.length = nF at hfl
        have HNF : Hid (G.F.length = nF) := hnF
        obtain ⟨fi, hfi⟩ : ∃ fi, xa % nF = fi := ⟨_, rfl⟩
        have hfin : fi < nF := by rw [← hfi]; exact Nat.mod_lt _ (by omega)
        have m1 : (xa : Int) % (nF : Int) = (fi : Nat) := by rw [← Int.natCast_emod, hfi]
        obtain ⟨zz, hzz⟩ : ∃ zz, xa % 4095 = zz := ⟨_, rfl⟩
        have m2 : (xa : Int) % 4095 = (zz : Nat) := by omega
        have hzz2 : zz < 4095 := by omega
        obtain ⟨b0, hb0⟩ : ∃ b0, xw % 256 = b0 := ⟨_, rfl⟩
        obtain ⟨b1, hb1⟩ : ∃ b1, xw / 256 = b1 := ⟨_, rfl⟩
        have m3 : IntKind.u8.wrap (xw : Int) = (b0 : Nat) := by show (xw : Int) % 256 = _; omega
        have m4 : (xw : Int) / 256 = (b1 : Nat) := by omega
        have hb01 : b0 < 256 ∧ b1 < 256 := by omega
        have hnz : ((nF : Int) == 0) = false := by rw [beq_eq_false_iff_ne]; omega
        have j1 : (0 : Int) ≤ (fi : Int) := by omega
        have j2 : (fi : Int) < (nF : Int) := by omega
        have HFI : Hid (fi < G.F.length) := by show _ < _; rw [hnF]; exact hfin
        clear hfi hzz hb0 hb1 hnF HO HND HTK
        go_wp2_with fail
        refine (row_z wr HP.out HF4.out).mono ?_
        rintro e w5 ⟨a5, c5, rfl, own5, b5⟩
        rw [HNF.out] at own5 ⊢
        obtain ⟨g5, rfl, hc5, _⟩ := row_at own5 hfin
        rw [fzv_at _ _ (by rw [rowL_len]; exact HFI.out)] at hc5
        have HP5 : Hid (PageZ E D w5 q G) := HP.out.below b5
        have HR5 : Hid (RamAt B E w5 r R) := HR.out.below b5
        have HB5 : Hid (Below w.heap.size w w5) := HBL.out.trans (b5.mono HBL.out.size)
        have hE5 : E ≤ w5.heap.size := HR5.out.hi.1
        obtain ⟨W6, hW6⟩ : ∃ W6, w5.alloc (.cells #[.int .u8 (b0 : Nat), .int .u8 (b1 : Nat)] 5) = W6 := ⟨_, rfl⟩
        have hb6 : Below w5.heap.size w5 W6 := by rw [← hW6]; exact (Below.refl _ w5).alloc (Nat.le_refl _) _
        have hrow6 : W6.ownsRow w5.heap.size 5 1 (.slice (some ⟨w5.heap.size, 0, none⟩) 2 2) 2 (bv [b0, b1]) := by
          rw [← hW6]
          exact World.ownsRow_lit (base := w5.heap.size) (e := 5) (size := 1) w5 #[.int .u8 (b0 : Nat), .int .u8 (b1 : Nat)] 2 (Nat.le_refl _) (by unfold maxLen; omega) rfl
        have HY6 : Hid (ByAt W6 (some ⟨w5.heap.size, 0, none⟩) 2 2 [b0, b1]) := by_row hrow6 (by
          intro y hy
          simp only [List.mem_cons, List.not_mem_nil, or_false] at hy
          rcases hy with rfl | rfl
          · exact hb01.1
          · exact hb01.2)
        have HA6 : Hid (Apart B E (.slice (some ⟨w5.heap.size, 0, none⟩) 2 2) [b0, b1]) := apart_row hrow6 hE5
        have HP6 : Hid (PageZ E D W6 q G) := HP5.out.below hb6
        have HR6 : Hid (RamAt B E W6 r R) := HR5.out.below hb6
        have HB6 : Hid (Below w.heap.size w W6) := HB5.out.trans (hb6.mono HB5.out.size)
        have HOV : Hid (PGok (R.wr ((rowL G.F).getD fi 0) (zz : Int) [b0, b1]) G) := PGok.over HG.out.ok HFI.out (by show zz + 2 ≤ 4096; omega)
        generalize (rowL G.F).getD fi 0 = vF at hc5 HOV
        clear own5 b5 hb6 hrow6 HP5 HR5
        go_wp2_with fail
        refine (wWrite vF (zz : Nat) W6 (RamP.some HR6.out) HY6.out HA6.out).mono ?_
        rintro e w7 ⟨rfl, ram7, ht7⟩
        have HR7 : Hid (RamAt B E w7 r (R.wr vF (zz : Int) [b0, b1])) := ramP_at ram7
        have HP7 : Hid (PageZ E D w7 q G) := HP6.out.turns (.inr (Nat.le_refl _)) ht7
        have HB7 : Hid (Below w.heap.size w w7) := HB6.out.trans ((ht7.below (Nat.le_trans HBE.out.2.1 HR6.out.hi.1)).mono HBE.out.1)
        generalize R.wr vF (zz : Int) [b0, b1] = R7 at HR7 HOV
        clear ram7 ht7 hc5 hW6
        go_wp2_with fail
        refine (list_z HOV.out HG1.out w7 HP7.out HR7.out (.inr (Nat.le_refl _))).mono ?_
        rintro e w8 ⟨a8, c8, ok, T, R8, rfl, own8, hl8, ram8, st8, ht8⟩
        have HP8 : Hid (PageZ E D w8 q G) := HP7.out.turns (.inr (Nat.le_refl _)) ht8
        have HB8 : Hid (Below w.heap.size w w8) := HB7.out.trans ((ht8.below (Nat.le_trans HBE.out.2.1 HR7.out.hi.1)).mono HBE.out.1)
        have HO8 : Hid (w8.ownsRow w7.heap.size 3 1 (.slice a8 T.length c8) T.length (fiv T)) := own8
        cases ok with
        | false =>
          have hT := hl8.no rfl
          subst hT
          have HBW : Hid (Below w.heap.size w w8) := HB8.out
          clear own8 hl8 ram8 st8 ht8
          go_wp2_with fail
          refine (lives_any w8).mono ?_
          rintro e wl ⟨rfl, bl⟩
          have HBL : Hid (Below w.heap.size w wl) := HBW.out.trans (bl.mono HBW.out.size)
          clear bl
          go_wp2
          go_ret
          exact ⟨rfl, HBL.out⟩
        | true =>
          obtain ⟨hnd, hfr, hsum⟩ := hl8.yes rfl
          have HND : Hid (T.Nodup) := hnd
          have HFR : Hid (∀ n ∈ T, n < G.x.length ∧ G.x.getD n false = false) := hfr
          have hTl : T.length ≤ 256 := by omega
          obtain ⟨ul, hul⟩ : ∃ ul, (allL G.x).length = ul := ⟨_, rfl⟩
          obtain ⟨xl, hxl⟩ : ∃ xl, G.x.length = xl := ⟨_, rfl⟩
          obtain ⟨tl, htl⟩ : ∃ tl, T.length = tl := ⟨_, rfl⟩
          have HUL : Hid ((allL G.x).length = ul) := hul
          have HXL : Hid (G.x.length = xl) := hxl
          have HTL : Hid (T.length = tl) := htl
          rw [htl, hul, hxl] at hsum
          rw [htl] at hTl
          rw [hxl] at hmany
          have hsum2 : (tl : Int) + (ul : Int) = (xl : Int) := by omega
          have HRW : Hid (w8.ownsRow w7.heap.size 3 1 (.slice a8 tl c8) tl (fiv T)) := by have := HO8.out; rw [htl] at this; exact this
          rw [htl]
          clear own8 hl8 ram8 st8 ht8 hnd hfr hul hxl htl HO8
          go_wp2_with fail
          go_loopg [20] tl (fun gk i wr => ∃ (k m : Nat), k ≤ tl ∧ gk = tl - k ∧ i = .int .i64 k ∧ wr = w8.drewN m)
          case atStart => exact ⟨0, 0, by omega, rfl, rfl, rfl⟩
          case round =>
            obtain ⟨k, m, hk, rfl, rfl, rfl⟩ := hrel
            obtain ⟨wq, hwq⟩ : ∃ wq, w8.drewN m = wq := ⟨_, rfl⟩
            have HWQ : Hid (w8.drewN m = wq) := hwq
            have hbq : Below w8.heap.size w8 wq := by rw [← hwq]; exact drewN_below _ _ _
            have HPQ : Hid (PageZ E D wq q G) := HP8.out.below hbq
            have HRQ : Hid (wq.ownsRow w7.heap.size 3 1 (.slice a8 tl c8) tl (fiv T)) := row_below HRW.out hbq
            have HBQ : Hid (Below w.heap.size w wq) := HB8.out.trans (hbq.mono HB8.out.size)
            rw [hwq]
            clear hwq hbq
            by_cases hlt : k < tl
            · have i3 : (k : Int) < (tl : Int) := by omega
              obtain ⟨g8, rfl, hck, _⟩ := row_at HRQ.out hlt
              rw [fiv_at T k (by rw [HTL.out]; exact hlt)] at hck
              have hmem : T.getD k 0 ∈ T := mem_getD (by rw [HTL.out]; exact hlt)
              obtain ⟨ht1, ht2⟩ := HFR.out _ hmem
              have HNE : Hid (∀ kk, kk < k → T.getD kk 0 ≠ T.getD k 0) := by
                intro kk hkk e
                have h1 : kk < T.length := by rw [HTL.out]; omega
                have h2 : k < T.length := by rw [HTL.out]; exact hlt
                rw [List.getD_eq_getElem?_getD, List.getD_eq_getElem?_getD, List.getElem?_eq_getElem h1, List.getElem?_eq_getElem h2] at e
                have := nodup_at HND.out h1 h2 (by simpa using e)
                omega
              generalize T.getD k 0 = t at hck ht1 ht2 HNE
              rw [HXL.out] at ht1
              have HQ1 : Hid (∀ n, Calls Try.prog 12 #[.pointer (some ⟨q, 0, none⟩), .int .i64 (t : Nat)] (wq.drewN n) fun e w' => e = .returned (.bool false) ∧ ∃ m, w' = wq.drewN m) := fun n => by
                refine (has_z (t : Nat) (wq.drewN n) (HPQ.out.below (drewN_below _ _ _))).mono ?_
                rintro e w' ⟨rfl, m, rfl⟩
                exact ⟨by rw [hasB_nat, ht2], n + m, by rw [World.drewN_drewN]⟩
              have HQ2 : Hid (∀ n, Calls Try.prog 10 #[.pointer (some ⟨q, 0, none⟩)] (wq.drewN n) fun e w' => e = .returned (.int .i64 (xl : Nat)) ∧ wq.drewN n = w') := fun n => by
                rw [← HXL.out]
                exact many_z (wq.drewN n) (HPQ.out.below (drewN_below _ _ _))
              have d1 : decide ((t : Int) < 0) = false := decide_eq_false (by omega)
              have d2 : decide ((xl : Int) ≤ (t : Int)) = false := decide_eq_false (by omega)
              have d3 : decide (xl ≤ t) = false := decide_eq_false (by omega)
              clear hmem ht2
              go_upto_region 26 with (fail)
              go_quiet (first | (go_at_call 12; exact HQ1.out _) | (go_at_call 10; exact quietSame (HQ2.out _)))
              go_wp2_with fail
              go_loopg [21] k (fun gk i wr => ∃ (kk m : Nat), kk ≤ k ∧ gk = k - kk ∧ i = .int .i64 kk ∧ wr = wq.drewN m)
              case atStart => exact ⟨0, _, by omega, rfl, rfl, rfl⟩
              case round =>
                obtain ⟨kk, m2, hkk, rfl, rfl, rfl⟩ := hrel
                by_cases hlk : kk < k
                · have i5 : (kk : Int) < (k : Int) := by omega
                  obtain ⟨g9, hg9, hckk, _⟩ := row_at HRQ.out (show kk < tl by omega)
                  cases hg9
                  rw [fiv_at T kk (by rw [HTL.out]; omega)] at hckk
                  have hne := HNE.out kk hlk
                  generalize T.getD kk 0 = t2 at hckk hne
                  have i6 : ((t2 : Int) == (t : Int)) = false := by rw [beq_eq_false_iff_ne]; omega
                  have i7 : (kk : Int) < (tl : Int) := by omega
                  go_upto_region 31 with (fail)
                  go_quiet (fail)
                  go_wp2
                  go_roundg (k - (kk + 1))
                  case measure => omega
                  case rel => exact ⟨kk + 1, _, by omega, rfl, by go_num, rfl⟩
                · have e : kk = k := by omega
                  subst e
                  have i5 : ¬ (kk : Int) < (kk : Int) := by omega
                  go_wp2
                  go_roundg (tl - (kk + 1))
                  case measure => omega
                  case rel => exact ⟨kk + 1, m + m2, by omega, rfl, by go_num, by rw [← HWQ.out, World.drewN_drewN]⟩
            · have e : k = tl := by omega
              subst e
              have i3 : ¬ (k : Int) < (k : Int) := by omega
              go_wp2_with fail
              refine (used_z wq HPQ.out).mono ?_
              rintro e w9 ⟨rfl, rfl⟩
              rw [HUL.out]
              go_wp2_with fail
              refine (many_z wq HPQ.out).mono ?_
              rintro e w9 ⟨rfl, rfl⟩
              rw [HXL.out]
              obtain ⟨W9, hW9⟩ : ∃ W9, wq.alloc (.cells #[.int .i64 (-1)] 3) = W9 := ⟨_, rfl⟩
              have hb9 : Below wq.heap.size wq W9 := by rw [← hW9]; exact (Below.refl _ wq).alloc (Nat.le_refl _) _
              have HC9 : Hid (W9.cell? ⟨wq.heap.size, 0, none⟩ = some (.int .i64 (-1))) := by show _ = _; rw [← hW9, cell_of_row _ wq.heap.size 0 _ _ _ (heap_alloc_new wq _)]; rfl
              have HRZ : Hid (W9.ownsRow w7.heap.size 3 1 (.slice a8 T.length c8) T.length (fiv T)) := by have := row_below HRQ.out hb9; rw [← HTL.out] at this; exact this
              have HB9 : Hid (Below w.heap.size w W9) := HBQ.out.trans (hb9.mono HBQ.out.size)
              rw [← HTL.out] at hsum2 hsum hTl ⊢
              clear hb9
              go_wp2_with fail
              refine (refInts_no W9 HRZ.out (by omega) HC9.out).mono ?_
              rintro e w10 ⟨rfl, m10, rfl⟩
              have HBW : Hid (Below w.heap.size w (W9.drewN m10)) := HB9.out.trans ((drewN_below _ _ _).mono HB9.out.size)
              go_wp2_with fail
              refine (lives_any (W9.drewN m10)).mono ?_
              rintro e wl ⟨rfl, bl⟩
              have HBL : Hid (Below w.heap.size w wl) := HBW.out.trans (bl.mono HBW.out.size)
              clear bl
              go_wp2
              go_ret
              exact ⟨rfl, HBL.out⟩

set_option maxRecDepth 100000 in
theorem walk {H : Type} {enc : TypeId × Value → H} {w : World} {base : Nat} {v0 v1 v2 : Value} {d0 d1 d2 : DataW H} {p0 p1 p2 : List MemPlace}
    (o0 : Value.okWide Try.prog w .any base 5 v0) (o1 : Value.okWide Try.prog w .any base 49 v1) (o2 : Value.okWide Try.prog w .any base 57 v2)
    (h0 : DataW.Trod enc Try.prog w 0 (fun _ => true) true 5 v0 d0 p0) (h1 : DataW.Trod enc Try.prog w 0 (fun _ => true) true 49 v1 d1 p1) (h2 : DataW.Trod enc Try.prog w 0 (fun _ => true) true 57 v2 d2 p2) :
    Calls Try.prog 5 #[v0, v1, v2] w fun e w' => e = .returned (.bool true) ∧ Below w.heap.size w w' := by
  obtain ⟨c, rfl, hc⟩ := openOne Try.underlying5 o0 h0
  have hbc := bounds_u8 hc
  obtain ⟨c, rfl⟩ := Int.eq_ofNat_of_zero_le hbc.1
  obtain ⟨p, n, cp, bs, rfl, hby⟩ := openBy Try.underlying49 Try.underlying5 (by kernel_rfl) o1 h1
  obtain ⟨xa, xw, rfl, hxa, hxw⟩ := openArr2 Try.underlying57 Try.underlying56 (by kernel_rfl) (by kernel_rfl) o2 h2
  have hb0 := bounds_u16 hxa
  have hb1 := bounds_u16 hxw
  obtain ⟨xa, rfl⟩ := Int.eq_ofNat_of_zero_le hb0.1
  obtain ⟨xw, rfl⟩ := Int.eq_ofNat_of_zero_le hb1.1
  exact run c xa xw p n cp bs w (by omega) (by omega) (by omega) hby

set_option maxRecDepth 100000 in
theorem lifted (os : Os) (started : os.Started) (H : Type) (enc : TypeId × Value → H) :
    ReturnsInHanded {} Try.checked os 5 .any (Rows.innerListsSpec.pre6 enc Try.prog Try.f5 Rows.innerListsRow.domain false) (Rows.innerListsSpec.post enc Try.prog Try.f5 false true false false) := by
  refine returnsInHanded_of_change (C := Try.checked) own started (by kernel_rfl) Try.func5
    (ChangeSpec.witness6 (enc := enc) (C := Try.checked) false ⟨#[], #[.int .u8 0, .slice none 0 0, .agg #[.int .u16 0, .int .u16 0]], []⟩ 8 (by kernel_rfl) (by kernel_rfl) (by kernel_rfl) (by kernel_rfl)) ?_
  intro W base args ds gs before hval0 hW hcnd _
  have hval : ∀ (j : Nat) t v, Try.f5.params[j]? = some t → args[j]? = some v → Value.okWide Try.prog W .any base t v := hval0
  have hW' := hW
  obtain ⟨p, q, hA0, hV, rfl, hfz, hnd⟩ := hW
  have hA : DataW.TrodAll enc Try.prog W 0 (fun _ => true) true Try.f5.params.toList args.toList ds p := hA0
  rw [Try.params5] at hA hval
  obtain ⟨v0, vs0, d0, ds0, p0, q0, hargs, rfl, rfl, h0, r0⟩ := trodAll_cons hA
  obtain ⟨v1, vs1, d1, ds1, p1, q1, rfl, rfl, rfl, h1, r1⟩ := trodAll_cons r0
  obtain ⟨v2, vs2, d2, ds2, p2, q2, rfl, rfl, rfl, h2, r2⟩ := trodAll_cons r1
  obtain ⟨rfl, rfl, rfl⟩ := trodAll_nil r2
  obtain rfl : args = #[v0, v1, v2] := by cases args; simp_all
  obtain ⟨rfl, rfl⟩ := trodVars_none hV
  have o0 := hval 0 5 v0 rfl rfl
  have lt0 : ∀ x ∈ p0, x.block < W.heap.size := by obtain ⟨m, hm⟩ := h0; exact DataW.trod_lt m _ _ _ hm
  have o1 := hval 1 49 v1 rfl rfl
  have lt1 : ∀ x ∈ p1, x.block < W.heap.size := by obtain ⟨m, hm⟩ := h1; exact DataW.trod_lt m _ _ _ hm
  have o2 := hval 2 57 v2 rfl rfl
  have lt2 : ∀ x ∈ p2, x.block < W.heap.size := by obtain ⟨m, hm⟩ := h2; exact DataW.trod_lt m _ _ _ hm
  clear hA0 hval0
  refine (walk o0 o1 o2 h0 h1 h2).mono fun e W' ⟨he, bel⟩ => ?_
  subst he
  exact ⟨_, rfl, _, _, _, [], _, [], hW', trodAll_mk1 (shut_bool Try.underlying4 _), (trodAll_cons_mk (Below.trod laidOut (by kernel_rfl) (of_decide_eq_true (by kernel_rfl)) h0 bel lt0) (trodAll_cons_mk (Below.trod laidOut (by kernel_rfl) (of_decide_eq_true (by kernel_rfl)) h1 bel lt1) (trodAll_cons_mk (Below.trod laidOut (by kernel_rfl) (of_decide_eq_true (by kernel_rfl)) h2 bel lt2) trodAll_mk0))), rfl, bel.frame _, fun h => by cases h⟩

theorem over : Rows.innerListsRow.holds Try.pinned (OpenSpec.ofChange Rows.innerListsSpec) :=
  OpenClaim.holds_of_wide 5 Try.f5 rfl rfl rfl rfl rfl rfl rfl ⟨rfl, rfl, rfl, rfl, rfl⟩ rfl rfl rfl rfl rfl (by kernel_rfl) Try.func5 (by kernel_rfl)
    (of_decide_eq_true (by kernel_rfl)) (by unfold Func.isWrapper; first | (rw [if_pos (by decide +kernel)]; kernel_rfl) | (rw [if_neg (by decide +kernel)]; exact ⟨rfl, rfl⟩))
    (fun os started H enc _ => lifted os started H enc)
end Go.Proofs.Ytjgkhckcoknnfaa.InnerLists
namespace Go.Proofs.Ytjgkhckcoknnfaa
/-- The statement. -/
theorem innerLists_holds : Rows.InnerListsSaid := InnerLists.over
#print axioms innerLists_holds
end Go.Proofs.Ytjgkhckcoknnfaa
