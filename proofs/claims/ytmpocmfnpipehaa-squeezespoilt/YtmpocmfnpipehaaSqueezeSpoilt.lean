/- Proved: gunnylaw13.SqueezeSpoilt returns true for all lists of pieces, all uint16 and all bytes: what comes of a packed page, cut off, with bytes behind, or with one byte otherwise, is the document's. No conditions. -/
import Derived.Test.YtmpocmfnpipehaaQLives
import Derived.Test.YtmpocmfnpipehaaQMore
import Derived.Test.YtmpocmfnpipehaaQRef
import Derived.Test.YtmpocmfnpipehaaQGreat
import Derived.Test.YtmpocmfnpipehaaEPieces
import Derived.Test.YtmpocmfnpipehaaBOpen
import Derived.Laws.Closers25b
namespace Go.Proofs.Ytmpocmfnpipehaa.SqueezeSpoilt
open Go.ChangeShapes Go.WideShapes Go.ChangeAt Go.RowKit
set_option linter.unusedVariables false
theorem own : ownKnob Try.prog.godebug = none := by kernel_rfl
theorem laidOut : laidOutB Try.prog = true := by kernel_rfl
set_option maxRecDepth 100000 in
set_option maxHeartbeats 4000000 in
theorem run (a : Option Addr) (L c : Nat) (D : Nat → Pc) (hL : L ≤ maxLen) (n x : Nat) (hn : n < 65536) (hx : x < 256) (w : World) (hd : PcsAt w a L D) :
    Calls Try.prog 4 #[.slice a L c, .int .u16 (n : Nat), .int .u8 (x : Nat)] w fun e w' => e = .returned (.bool true) ∧ Below w.heap.size w w' := by
  obtain ⟨i0, hi, hz0, hz1, hz2⟩ := info_parts Try.info5
  have HD : Hid (PcsAt w a L D) := hd
  clear hd
  go_enter Try.func4, Try.ntmps4
  go_wp2_with fail
  refine (great_any a L c D w hL HD.out).mono ?_
  rintro e w' ⟨v, rfl, rfl, hv⟩
  obtain ⟨bb, rfl, hgb⟩ := hv
  cases bb with
  | true =>
    clear hgb
    go_wp2_with fail
    refine (lives_any _).mono ?_
    rintro e w1 ⟨rfl, hb⟩
    have HB : Hid (Below w.heap.size w w1) := hb
    clear hb
    go_wp2
    go_ret
    exact ⟨rfl, HB.out⟩
  | false =>
    obtain ⟨h200, h5⟩ := hgb rfl
    have H5 : Hid (∀ i, i < L → (D i).l ≤ 5000) := h5
    clear hgb h5
    go_wp2_with fail
    refine (pieces_any a L c D w h200 HD.out H5.out).mono ?_
    rintro e w1 ⟨g, c', q, rfl, own1, h8, b1⟩
    have hql : q.length = 4096 := by simpa [bv] using own1.1
    obtain ⟨T, hT⟩ : ∃ T, packL q = T := ⟨_, rfl⟩
    obtain ⟨B, hB⟩ : ∃ B, catZ q T = B := ⟨_, rfl⟩
    have hback := pack_back hql h8
    have h4128 := pack_4128 hql
    have hpos := pack_some hql h8
    have h48 := tz_byte h8 (packL_spell hql).may
    rw [hT, hB] at hback h4128 hpos h48
    have HT : Hid (packL q = T ∧ catZ q T = B) := ⟨hT, hB⟩
    have HBK : Hid ((unpA B).e = 0) := by show _ = _; rw [hback]
    have H48 : Hid (∀ x ∈ B, x < 256) := h48
    have HP1 : Hid (ByAt w1 (some ⟨g, 0, none⟩) 4096 c' q) := by_row own1 h8
    have HB1 : Hid (Below w.heap.size w w1) := b1
    have hsz1 := b1.size
    clear own1 h8 b1 hback hT hB h48 hql
    go_wp2_with fail
    refine (pack_any w1 HP1.out).mono ?_
    rintro e w2 ⟨v2, rfl, own2, b2⟩
    rw [HT.out.1, HT.out.2] at own2
    obtain ⟨m, hm⟩ : ∃ m, B.length = m := ⟨_, rfl⟩
    rw [hm] at own2 h4128 hpos
    have HM : Hid (B.length = m) := hm
    obtain ⟨a2, k2, rfl⟩ := row_slice own2
    have HO2 : Hid (w2.ownsRow w1.heap.size 5 1 (.slice a2 m k2) m (bv B)) := own2
    have HB2 : Hid (Below w.heap.size w w2) := HB1.out.trans (b2.mono hsz1)
    have hsz2 := b2.size
    have hszw := HB2.out.size
    clear own2 b2 hm HT
    have hmne : ((m : Int) == 0) = false := by rw [beq_eq_false_iff_ne]; omega
    have hmn2 : ¬ (m : Int) = 0 := by omega
    obtain ⟨k, hk⟩ : ∃ k, n % m = k := ⟨_, rfl⟩
    have hkm : k < m := by rw [← hk]; exact Nat.mod_lt _ hpos
    have hmod : Int.tmod (n : Int) (m : Int) = (k : Int) := by
      rw [Int.tmod_eq_emod_of_nonneg (by omega), ← Int.natCast_emod, hk]
    have hmod2 : (n : Int) % (m : Int) = (k : Int) := by rw [← Int.natCast_emod, hk]
    clear hk
    have HL0 : Hid ((w2.alloc (.cells #[] 5)).ownsRow w2.heap.size 5 1 (.slice (some ⟨w2.heap.size, 0, none⟩) 0 0) 0 (bv [])) := own_lit w2 w2.heap.size w2.heap.size 0 [] #[] rfl (Nat.le_refl _) rfl (by unfold maxLen; omega) rfl
    have hb2a : Below w2.heap.size w2 (w2.alloc (.cells #[] 5)) := (Below.refl _ _).alloc (Nat.le_refl _) _
    have HS2 : Hid (SrcAt (w2.alloc (.cells #[] 5)) (.slice a2 m k2) m 1 (bv B)) := src_row (row_below HO2.out hb2a)
    clear hb2a
    go_wp2_with (at_builtin; refine wpList_append_src rfl _ _ 22 rfl w2.heap.size 5 i0 (.int .u8 0) 1 1 Try.underlying22 hi hz0 hz1 hz2 rfl (by decide) _ 0 (bv []) rfl HL0.out _ m (bv B) rfl HS2.out (bv_one _) ?y1 ?y2 ?y3 ?_)
    case y1 => unfold maxLen; omega
    case y2 => omega
    case y3 => simp
    intro v3 w3 own3 gr3
    have e3 : bv [] ++ bv B = bv B := rfl
    rw [e3] at own3
    obtain ⟨g3, k3, rfl, hlo3, _⟩ := own3.form hpos
    have hb3 : Below w2.heap.size w2 w3 := ((Below.refl _ w2).alloc (Nat.le_refl _) _).grown gr3 (by simp) (fun j hj => by
      have e : w2.heap.size = j := by simpa [Value.ownBlock] using hj
      omega)
    have HO3 : Hid (w3.ownsRow w2.heap.size 5 1 (.slice (some ⟨g3, 0, none⟩) m k3) m (bv B)) := own3
    have hA2 : ∀ j, (Value.slice a2 m k2).ownBlock = some j → j < w2.heap.size := fun j hj => (HO2.out.lt j hj).2
    have HB3 : Hid (Below w.heap.size w w3) := HB2.out.trans (hb3.mono hszw)
    have HO23 : Hid (w3.ownsRow w1.heap.size 5 1 (.slice a2 m k2) m (bv B)) := row_below HO2.out hb3
    have hsz3 := hb3.size
    obtain ⟨y0, hy0⟩ : ∃ y0, B.getD k 0 = y0 := ⟨_, rfl⟩
    have hc : w3.cell? ⟨g3, k, none⟩ = some (.int .u8 (y0 : Int)) := by
      rw [own3.cellAt k (by omega), bv_at _ _ (by rw [HM.out]; exact hkm), hy0]
    have hfz := own3.frozenAt k
    have hix := index_at (g := g3) (o := 0) (L := m) (c := k3) (q := k) (I := (k : Int)) k rfl hkm (by omega)
    have hy8 : y0 < 256 := by rw [← hy0]; exact getD_byte H48.out k
    clear own3 gr3 e3 hb3 HL0 HS2 hy0
    obtain ⟨y, hy, hxy⟩ : ∃ y : Nat, y < 256 ∧ bits .xor .u8 (y0 : Int) (bits .or .u8 (x : Int) 1) = (y : Int) := by
      have h1 := bits_lo_u8 .xor (y0 : Int) (bits .or .u8 (x : Int) 1)
      have h2 := bits_hi_u8 .xor (y0 : Int) (bits .or .u8 (x : Int) 1)
      exact ⟨(bits .xor .u8 (y0 : Int) (bits .or .u8 (x : Int) 1)).toNat, by omega, by omega⟩
    have R := HO3.out.stored k (.int .u8 (y : Int))
    rw [bv_set] at R
    have hg3 := HO3.out.lt g3 rfl
    have k4 : Keeps (fun j => j ≠ g3) w3 (w3.setCell ⟨g3, k, none⟩ (.int .u8 (y : Int))) := keeps_grown R.2 fun j hj => by
      have e : g3 = j := by simpa using hj
      simp [e]
    have HO4 : Hid (((w3.setCell ⟨g3, k, none⟩ (.int .u8 (y : Int))).alloc (.cells #[] 5)).ownsRow w2.heap.size 5 1 (.slice (some ⟨g3, 0, none⟩) m k3) m (bv (B.set k y))) := R.1.alloc _
    have HO24 : Hid (((w3.setCell ⟨g3, k, none⟩ (.int .u8 (y : Int))).alloc (.cells #[] 5)).ownsRow w1.heap.size 5 1 (.slice a2 m k2) m (bv B)) := (k4.row HO23.out fun j hj => by have := hA2 j hj; omega).alloc _
    have HB4 : Hid (Below w.heap.size w ((w3.setCell ⟨g3, k, none⟩ (.int .u8 (y : Int))).alloc (.cells #[] 5))) := (HB3.out.setCell (p := ⟨g3, k, none⟩) (by show w.heap.size ≤ g3; omega) _).alloc (by simp; omega) _
    have HL4 : Hid (((w3.setCell ⟨g3, k, none⟩ (.int .u8 (y : Int))).alloc (.cells #[] 5)).ownsRow w3.heap.size 5 1 (.slice (some ⟨w3.heap.size, 0, none⟩) 0 0) 0 (bv [])) := own_lit _ w3.heap.size w3.heap.size 0 [] #[] (by simp) (Nat.le_refl _) rfl (by unfold maxLen; omega) rfl
    have hs4 : ((w3.setCell ⟨g3, k, none⟩ (.int .u8 (y : Int))).alloc (.cells #[] 5)).heap.size = w3.heap.size + 1 := by simp
    have HA2 : Hid (∀ j, (Value.slice a2 m k2).ownBlock = some j → j < w3.heap.size) := fun j hj => by have := hA2 j hj; omega
    have hg3w := hg3.2
    clear R HO3 HO23 k4 hA2 hg3
    go_wp2_with (at_builtin; refine wpList_append_src rfl _ _ 22 rfl w3.heap.size 5 i0 (.int .u8 0) 1 1 Try.underlying22 hi hz0 hz1 hz2 rfl (by decide) _ 0 (bv []) rfl HL4.out _ m (bv B) rfl (src_row HO24.out) (bv_one _) ?z1 ?z2 ?z3 ?_)
    case z1 => unfold maxLen; omega
    case z2 => omega
    case z3 => omega
    intro v5 w5 own5 gr5
    generalize hW4 : (w3.setCell ⟨g3, k, none⟩ (.int .u8 (y : Int))).alloc (.cells #[] 5) = w4 at *
    have e5 : bv [] ++ bv B = bv B := rfl
    rw [e5] at own5
    obtain ⟨a5, k5, rfl⟩ := row_slice own5
    have hgr5 : ∀ j, (Value.slice (some ⟨w3.heap.size, 0, none⟩) 0 0).ownBlock = some j → w3.heap.size ≤ j := fun j hj => by
      have e : w3.heap.size = j := by simpa [Value.ownBlock] using hj
      omega
    have HO5 : Hid (w5.ownsRow w3.heap.size 5 1 (.slice a5 m k5) m (bv B)) := own5
    have HB45 : Hid (Below w3.heap.size w4 w5) := (Below.refl _ _).grown gr5 (by omega) hgr5
    have HB5 : Hid (Below w.heap.size w w5) := HB4.out.grown gr5 (by omega) (fun j hj => by have := hgr5 j hj; omega)
    have hs5 := HB45.out.size
    clear own5 gr5 e5 hgr5 hW4 HL4
    go_wp2_with (at_builtin; refine wpList_append_src rfl _ _ 22 rfl w3.heap.size 5 i0 (.int .u8 0) 1 1 Try.underlying22 hi hz0 hz1 hz2 rfl (by decide) _ m (bv B) rfl (HO5.out.alloc _) _ 1 (bv [x]) rfl (src_one _ _ x _ rfl rfl _) (bv_one _) ?x1 ?x2 ?x3 ?_)
    case x1 => unfold maxLen; omega
    case x2 => omega
    case x3 => simp; omega
    intro v6 w6 own6 gr6
    rw [← bv_append] at own6
    obtain ⟨a6, k6, rfl⟩ := row_slice own6
    have HB46 : Hid (Below w3.heap.size w4 w6) := (HB45.out.alloc (by omega) _).grown gr6 (by simp; omega) (fun j hj => (HO5.out.lt j hj).1)
    have HB6 : Hid (Below w.heap.size w w6) := (HB5.out.alloc (by omega) _).grown gr6 (by simp; omega) (fun j hj => by have := (HO5.out.lt j hj).1; omega)
    have hk6 : Keeps (fun j => j < w3.heap.size) w4 w6 := keeps_below HB46.out fun _ _ h => h
    have hcy : ByAt w6 (some ⟨g3, 0, none⟩) m k3 (B.set k y) := by_own (hk6.row HO4.out fun j hj => by
      have e : g3 = j := by simpa [Value.ownBlock] using hj
      omega) fun u hu => by
        rcases List.mem_or_eq_of_mem_set hu with h | rfl
        · exact H48.out u h
        · exact hy
    have hby : ByAt w6 a2 m k2 B := by_own (hk6.row HO24.out fun j hj => HA2.out j hj) H48.out
    have hdy : ByAt w6 a6 (m + 1) k6 (B ++ [x]) := by_own own6 fun u hu => by
      rcases List.mem_append.1 hu with h | h
      · exact H48.out u h
      · rw [List.mem_singleton.1 h]; exact hx
    have HYC : Hid (∀ z, Below w6.heap.size w6 z → ByAt z (some ⟨g3, 0, none⟩) m k3 (B.set k y)) := fun z hz => hcy.later hz
    have HYD : Hid (∀ z, Below w6.heap.size w6 z → ByAt z a6 (m + 1) k6 (B ++ [x])) := fun z hz => hdy.later hz
    have HYB : Hid (∀ z, Below w6.heap.size w6 z → ByAt z a2 k k2 (B.take k)) := fun z hz => (hby.later hz).head (Nat.le_of_lt hkm)
    have HHD := run_head (p := a2) (n := m) (c := k2) (m := k) (M := (k : Int)) rfl (by have := hby.cap; omega)
    have hsz6 := HB6.out.size
    have HU1 : Hid ((unpA (B ++ [x])).e ≠ 0) := by
      show _ ≠ _
      rw [unp_more H48.out (by simp) HBK.out]
      exact fun h => by cases h
    have HU2 : Hid ((unpA (B.take k)).e ≠ 0) := unp_less H48.out (by rw [HM.out]; exact hkm) HBK.out
    clear own6 gr6 hk6 hcy hby hdy
    go_wp2_with fail
    go_loopg [12] 3 (fun gk i wr => ∃ t : Nat, t ≤ 3 ∧ gk = 3 - t ∧ i = .int .i64 t ∧ Below w6.heap.size w6 wr)
    case atStart => exact ⟨0, by omega, rfl, rfl, Below.refl _ _⟩
    case round =>
      obtain ⟨t, ht, rfl, rfl, hbr⟩ := hrel
      have HBR : Hid (Below w6.heap.size w6 wr) := hbr
      have hszr := hbr.size
      clear hbr
      have ht4 : t = 0 ∨ t = 1 ∨ t = 2 ∨ t = 3 := by omega
      rcases ht4 with rfl | rfl | rfl | rfl
      · have HY : Hid (∀ z, Below w6.heap.size w6 z → ByAt z (some ⟨g3, 0, none⟩) m k3 (B.set k y)) := HYC.out
        obtain ⟨U, hU⟩ : ∃ U, unpA (B.set k y) = U := ⟨_, rfl⟩
        have HU : Hid (unpA (B.set k y) = U) := hU
        clear hU
        go_wp2_with fail
        refine (sunpack_any wr (HY.out wr HBR.out) (by omega) HU.out).mono ?_
        rintro e w7 ⟨a7, k7, rfl, own7, b7⟩
        have HO7 : Hid (w7.ownsRow wr.heap.size 5 1 (.slice a7 U.q.length k7) U.q.length (bv U.q)) := own7
        have HB7 : Hid (Below w6.heap.size w6 w7) := HBR.out.trans (b7.mono hszr)
        have hsz7 := HB7.out.size
        clear own7 b7
        go_wp2_with fail
        have hr := refUnpack_any w7 (HY.out w7 HB7.out) (by omega)
        rw [HU.out] at hr
        refine Calls.mono hr ?_
        rintro e w8 ⟨v8, rfl, own8, b8⟩
        obtain ⟨a8, k8, rfl⟩ := row_slice own8
        have HO8 : Hid (w8.ownsRow w7.heap.size 5 1 (.slice a8 U.q.length k8) U.q.length (bv U.q)) := own8
        have HO78 : Hid (w8.ownsRow wr.heap.size 5 1 (.slice a7 U.q.length k7) U.q.length (bv U.q)) := row_below HO7.out b8
        have HB8 : Hid (Below w6.heap.size w6 w8) := HB7.out.trans (b8.mono hsz7)
        have hsz8 := HB8.out.size
        clear own8 b8 hr
        go_wp2_with fail
        refine (refBytes_same _ _ U.q w8 (conv_any HO78.out) (conv_any HO8.out)).mono ?_
        rintro e w9 ⟨rfl, rfl⟩
        go_wp2_with fail
        refine (tokens_any w8 (HY.out w8 HB8.out) (by omega) HU.out).mono ?_
        rintro e w9 ⟨rfl, b9⟩
        have HB9 : Hid (Below w6.heap.size w6 w9) := HB8.out.trans (b9.mono hsz8)
        clear b9
        go_wp2
        go_roundg (3 - (0 + 1))
        case measure => omega
        case rel => exact ⟨0 + 1, by omega, rfl, by go_num, HB9.out⟩
      · have HY : Hid (∀ z, Below w6.heap.size w6 z → ByAt z a6 (m + 1) k6 (B ++ [x])) := HYD.out
        obtain ⟨U, hU⟩ : ∃ U, unpA (B ++ [x]) = U := ⟨_, rfl⟩
        have HU : Hid (unpA (B ++ [x]) = U) := hU
        have hue : U.e ≠ 0 := hU ▸ HU1.out
        have i6 : ((U.e : Int) == 0) = false := by rw [beq_eq_false_iff_ne]; omega
        clear hU hue
        go_wp2_with fail
        refine (sunpack_any wr (HY.out wr HBR.out) (by omega) HU.out).mono ?_
        rintro e w7 ⟨a7, k7, rfl, own7, b7⟩
        have HO7 : Hid (w7.ownsRow wr.heap.size 5 1 (.slice a7 U.q.length k7) U.q.length (bv U.q)) := own7
        have HB7 : Hid (Below w6.heap.size w6 w7) := HBR.out.trans (b7.mono hszr)
        have hsz7 := HB7.out.size
        clear own7 b7
        go_wp2_with fail
        have hr := refUnpack_any w7 (HY.out w7 HB7.out) (by omega)
        rw [HU.out] at hr
        refine Calls.mono hr ?_
        rintro e w8 ⟨v8, rfl, own8, b8⟩
        obtain ⟨a8, k8, rfl⟩ := row_slice own8
        have HO8 : Hid (w8.ownsRow w7.heap.size 5 1 (.slice a8 U.q.length k8) U.q.length (bv U.q)) := own8
        have HO78 : Hid (w8.ownsRow wr.heap.size 5 1 (.slice a7 U.q.length k7) U.q.length (bv U.q)) := row_below HO7.out b8
        have HB8 : Hid (Below w6.heap.size w6 w8) := HB7.out.trans (b8.mono hsz7)
        have hsz8 := HB8.out.size
        clear own8 b8 hr
        go_wp2_with fail
        refine (refBytes_same _ _ U.q w8 (conv_any HO78.out) (conv_any HO8.out)).mono ?_
        rintro e w9 ⟨rfl, rfl⟩
        go_wp2_with fail
        refine (tokens_any w8 (HY.out w8 HB8.out) (by omega) HU.out).mono ?_
        rintro e w9 ⟨rfl, b9⟩
        have HB9 : Hid (Below w6.heap.size w6 w9) := HB8.out.trans (b9.mono hsz8)
        clear b9
        go_wp2
        go_roundg (3 - (1 + 1))
        case measure => omega
        case rel => exact ⟨1 + 1, by omega, rfl, by go_num, HB9.out⟩
      · have HY : Hid (∀ z, Below w6.heap.size w6 z → ByAt z a2 k k2 (B.take k)) := HYB.out
        obtain ⟨U, hU⟩ : ∃ U, unpA (B.take k) = U := ⟨_, rfl⟩
        have HU : Hid (unpA (B.take k) = U) := hU
        have hue : U.e ≠ 0 := hU ▸ HU2.out
        have i6 : ((U.e : Int) == 0) = false := by rw [beq_eq_false_iff_ne]; omega
        clear hU hue
        go_wp2_with fail
        refine (sunpack_any wr (HY.out wr HBR.out) (by omega) HU.out).mono ?_
        rintro e w7 ⟨a7, k7, rfl, own7, b7⟩
        have HO7 : Hid (w7.ownsRow wr.heap.size 5 1 (.slice a7 U.q.length k7) U.q.length (bv U.q)) := own7
        have HB7 : Hid (Below w6.heap.size w6 w7) := HBR.out.trans (b7.mono hszr)
        have hsz7 := HB7.out.size
        clear own7 b7
        go_wp2_with fail
        have hr := refUnpack_any w7 (HY.out w7 HB7.out) (by omega)
        rw [HU.out] at hr
        refine Calls.mono hr ?_
        rintro e w8 ⟨v8, rfl, own8, b8⟩
        obtain ⟨a8, k8, rfl⟩ := row_slice own8
        have HO8 : Hid (w8.ownsRow w7.heap.size 5 1 (.slice a8 U.q.length k8) U.q.length (bv U.q)) := own8
        have HO78 : Hid (w8.ownsRow wr.heap.size 5 1 (.slice a7 U.q.length k7) U.q.length (bv U.q)) := row_below HO7.out b8
        have HB8 : Hid (Below w6.heap.size w6 w8) := HB7.out.trans (b8.mono hsz7)
        have hsz8 := HB8.out.size
        clear own8 b8 hr
        go_wp2_with fail
        refine (refBytes_same _ _ U.q w8 (conv_any HO78.out) (conv_any HO8.out)).mono ?_
        rintro e w9 ⟨rfl, rfl⟩
        go_wp2_with fail
        refine (tokens_any w8 (HY.out w8 HB8.out) (by omega) HU.out).mono ?_
        rintro e w9 ⟨rfl, b9⟩
        have HB9 : Hid (Below w6.heap.size w6 w9) := HB8.out.trans (b9.mono hsz8)
        clear b9
        go_wp2
        go_roundg (3 - (2 + 1))
        case measure => omega
        case rel => exact ⟨2 + 1, by omega, rfl, by go_num, HB9.out⟩
      · go_wp2_with fail
        refine (lives_any _).mono ?_
        rintro e w7 ⟨rfl, b7⟩
        have HB7 : Hid (Below w.heap.size w w7) := HB6.out.trans ((HBR.out.trans (b7.mono hszr)).mono hsz6)
        clear b7
        go_wp2
        go_ret
        exact ⟨rfl, HB7.out⟩

theorem walk {H : Type} {enc : TypeId × Value → H} {w : World} {base : Nat} {v0 v1 v2 : Value} {d0 d1 d2 : DataW H} {p0 p1 p2 : List MemPlace}
    (o0 : Value.okWide Try.prog w .any base 32 v0)
    (o1 : Value.okWide Try.prog w .any base 33 v1)
    (o2 : Value.okWide Try.prog w .any base 5 v2)
    (h0 : DataW.Trod enc Try.prog w 0 (fun _ => true) true 32 v0 d0 p0)
    (h1 : DataW.Trod enc Try.prog w 0 (fun _ => true) true 33 v1 d1 p1)
    (h2 : DataW.Trod enc Try.prog w 0 (fun _ => true) true 5 v2 d2 p2) :
    Calls Try.prog 4 #[v0, v1, v2] w fun e w' => e = .returned (.bool true) ∧ Below w.heap.size w w' := by
  obtain ⟨a, L, c, D, rfl, hL, hds⟩ := openPcs Try.underlying32 Try.underlying51 (by kernel_rfl) (by kernel_rfl) Try.underlying22 Try.underlying5 (by kernel_rfl) Try.underlying33 o0 h0
  obtain ⟨x, rfl, hx⟩ := openOne Try.underlying33 o1 h1
  obtain ⟨y, rfl, hy⟩ := openOne Try.underlying5 o2 h2
  have hb := bounds_u16 hx
  have hc := bounds_u8 hy
  have := run a L c D hL x.toNat y.toNat (by omega) (by omega) w hds
  rwa [Int.toNat_of_nonneg hb.1, Int.toNat_of_nonneg hc.1] at this

set_option maxRecDepth 100000 in
theorem lifted (os : Os) (started : os.Started) (H : Type) (enc : TypeId × Value → H) :
    ReturnsInHanded {} Try.checked os 4 .any (Rows.squeezeSpoiltSpec.pre6 enc Try.prog Try.f4 Rows.squeezeSpoiltRow.domain false) (Rows.squeezeSpoiltSpec.post enc Try.prog Try.f4 false true false false) := by
  refine returnsInHanded_of_change (C := Try.checked) own started (by kernel_rfl) Try.func4
    (ChangeSpec.witness6 (enc := enc) (C := Try.checked) false ⟨#[], #[.slice none 0 0, .int .u16 0, .int .u8 0], []⟩ 8 (by kernel_rfl) (by kernel_rfl) (by kernel_rfl) (by kernel_rfl)) ?_
  intro W base args ds gs before hval0 hW hcnd _
  have hval : ∀ (j : Nat) t v, Try.f4.params[j]? = some t → args[j]? = some v → Value.okWide Try.prog W .any base t v := hval0
  have hW' := hW
  obtain ⟨p, q, hA0, hV, rfl, hfz, hnd⟩ := hW
  have hA : DataW.TrodAll enc Try.prog W 0 (fun _ => true) true Try.f4.params.toList args.toList ds p := hA0
  rw [Try.params4] at hA hval
  obtain ⟨v0, vs0, d0, ds0, p0, q0, hargs, rfl, rfl, h0, r0⟩ := trodAll_cons hA
  obtain ⟨v1, vs1, d1, ds1, p1, q1, rfl, rfl, rfl, h1, r1⟩ := trodAll_cons r0
  obtain ⟨v2, vs2, d2, ds2, p2, q2, rfl, rfl, rfl, h2, r2⟩ := trodAll_cons r1
  obtain ⟨rfl, rfl, rfl⟩ := trodAll_nil r2
  obtain rfl : args = #[v0, v1, v2] := by cases args; simp_all
  obtain ⟨rfl, rfl⟩ := trodVars_none hV
  have o0 := hval 0 32 v0 rfl rfl
  have lt0 : ∀ x ∈ p0, x.block < W.heap.size := by obtain ⟨m, hm⟩ := h0; exact DataW.trod_lt m _ _ _ hm
  have o1 := hval 1 33 v1 rfl rfl
  have lt1 : ∀ x ∈ p1, x.block < W.heap.size := by obtain ⟨m, hm⟩ := h1; exact DataW.trod_lt m _ _ _ hm
  have o2 := hval 2 5 v2 rfl rfl
  have lt2 : ∀ x ∈ p2, x.block < W.heap.size := by obtain ⟨m, hm⟩ := h2; exact DataW.trod_lt m _ _ _ hm
  clear hA0 hval0
  refine (walk o0 o1 o2 h0 h1 h2).mono fun e W' ⟨he, bel⟩ => ?_
  subst he
  exact ⟨_, rfl, _, _, _, [], _, [], hW', trodAll_mk1 (shut_bool Try.underlying4 _), (trodAll_cons_mk (Below.trod laidOut (by kernel_rfl) (of_decide_eq_true (by kernel_rfl)) h0 bel lt0) (trodAll_cons_mk (Below.trod laidOut (by kernel_rfl) (of_decide_eq_true (by kernel_rfl)) h1 bel lt1) (trodAll_cons_mk (Below.trod laidOut (by kernel_rfl) (of_decide_eq_true (by kernel_rfl)) h2 bel lt2) trodAll_mk0))), rfl, bel.frame _, fun h => by cases h⟩

theorem over : Rows.squeezeSpoiltRow.holds Try.pinned (OpenSpec.ofChange Rows.squeezeSpoiltSpec) :=
  OpenClaim.holds_of_wide 4 Try.f4 rfl rfl rfl rfl rfl rfl rfl ⟨rfl, rfl, rfl, rfl, rfl⟩ rfl rfl rfl rfl rfl (by kernel_rfl) Try.func4 (by kernel_rfl)
    (of_decide_eq_true (by kernel_rfl)) (by unfold Func.isWrapper; first | (rw [if_pos (by decide +kernel)]; kernel_rfl) | (rw [if_neg (by decide +kernel)]; exact ⟨rfl, rfl⟩))
    (fun os started H enc _ => lifted os started H enc)
end Go.Proofs.Ytmpocmfnpipehaa.SqueezeSpoilt
namespace Go.Proofs.Ytmpocmfnpipehaa
/-- The statement. -/
theorem squeezeSpoilt_holds : Rows.SqueezeSpoiltSaid := SqueezeSpoilt.over
#print axioms squeezeSpoilt_holds
end Go.Proofs.Ytmpocmfnpipehaa
