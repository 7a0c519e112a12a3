/- The walks of others and of the function that it tells a book's numbers by. -/
import Derived.Test.YthjacjckobkhmaaUBook
import Derived.Test.YthjacjckobkhmaaBOpen
import Derived.Shelf.Abstract
import Derived.Shelf.RegionOpen
import Derived.OwnWalkIn
import Derived.TacticsInMore
import Derived.LoopNIn
import Derived.LoopIn
import Derived.BigRegionIn
import Derived.BigGuardIn
namespace Go.Proofs.Ythjacjckobkhmaa
open Go.RowKit
attribute [local go_sem] Oper.semAt_some

theorem clone_at {b : Nat} {L : List Gh} (w : World) (h : MapAt w b L) :
    Calls Try.prog 28 #[.map (some b)] w fun e w' => e = .returned (.map (some w.heap.size)) ∧ MapAt w' w.heap.size L ∧ Below w.heap.size w w' ∧ w'.heap.size = w.heap.size + 1 := by
  obtain ⟨D, h1, h2⟩ := h
  refine (clone_map objR b _ D w h1).mono ?_
  rintro e w' ⟨he, h3, h4, h5⟩
  exact ⟨he, ⟨D, h3, h2⟩, h4, h5⟩
/-- The numbers, as they lie in memory. -/
def rowN (S : List Gh) : List Value := S.map fun h => .int .i64 h.n
theorem sorted_at {q b : Nat} {L : List Gh} (w : World) (h : MapAt w b L) (hG : Gok L) (hL : L.length ≤ 100) (hc : w.cell? ⟨q, 0, none⟩ = some (.map (some b))) (hq : q < w.heap.size) :
    Calls Try.prog 29 #[.func (.func 34) #[] #[.pointer (some ⟨q, 0, none⟩)]] w fun e w' => ∃ a c, e = .returned (.slice a (srt L).length c) ∧
      w'.ownsRow w.heap.size 3 1 (.slice a (srt L).length c) (srt L).length (rowN (srt L)) ∧ Below w.heap.size w w' := by
  obtain ⟨D, h1, h2⟩ := h
  refine (sorted_any objR q b _ D w h1 (by have := h1.size_le; omega) hq hc).mono ?_
  rintro e w' ⟨v, ss, rfl, hp, hrow, hb⟩
  have hp2 : ss.Perm (L.map Gh.n) := hp.trans (h2.keys h1 hG).symm
  have hlen : ss.length = (srt L).length := by rw [hp2.length_eq, List.length_map, (srt_perm L).length_eq]
  rw [srt_keys hp2, hlen] at hrow
  have e1 : ((srt L).map Gh.n).map Go.encZ = rowN (srt L) := by unfold rowN; rw [List.map_map]; rfl
  rw [e1] at hrow
  obtain ⟨a, c, rfl⟩ := row_slice hrow
  exact ⟨a, c, rfl, hrow, hb⟩

/-- What was captured: the book, those that don't count. -/
structure CapU (w : World) (q : Nat) (v : Value) (a : Option Addr) (n c : Nat) : Prop where
  v : w.cell? ⟨q, 0, none⟩ = some v
  s : w.cell? ⟨q + 1, 0, none⟩ = some (.slice a n c)
  lt : q + 2 ≤ w.heap.size
theorem CapU.below {w w' : World} {q n c : Nat} {v : Value} {a : Option Addr} (h : CapU w q v a n c) (hb : Below w.heap.size w w') : CapU w' q v a n c := by
  have h1 := h.lt
  have h2 := hb.size
  exact ⟨(hb.cell (by show _ < _; simp only; omega)).trans h.v, (hb.cell (by show _ < _; simp only; omega)).trans h.s, by omega⟩
def uLb (q : Nat) : Array Value := #[.pointer (some ⟨q, 0, none⟩), .pointer (some ⟨q + 1, 0, none⟩)]
set_option maxHeartbeats 400000 in
theorem others_any (v : Value) (a : Option Addr) (n c : Nat) (w : World) (hv : v = .pointer none ∨ ∃ r : Nat, v = .pointer (some ⟨r, 0, none⟩)) :
    Calls Try.prog 24 #[v, .slice a n c] w fun e w' => e = .returned (.func (.func 27) #[] (uLb w.heap.size)) ∧ CapU w' w.heap.size v a n c ∧ Below w.heap.size w w' ∧ w'.heap.size = w.heap.size + 2 := by
  have hmf : ∀ (fn : Fn) (first cap : Array Value) (w : World), (Instr.makeFunc fn first cap).run Try.prog w = .ok (.func fn first cap) w := fun _ _ _ _ => rfl
  obtain ⟨W2, hW2⟩ : ∃ W2, (w.alloc (.cells #[v] 28)).alloc (.cells #[.slice a n c] 27) = W2 := ⟨_, rfl⟩
  have HC : Hid (CapU W2 w.heap.size v a n c ∧ Below w.heap.size w W2 ∧ W2.heap.size = w.heap.size + 2) := by
    refine ⟨⟨?_, ?_, ?_⟩, ?_, ?_⟩
    · refine cell_of_one (t := 28) ?_
      rw [← hW2, Below.heap_alloc _ _ _ (by simp)]
      exact heap_alloc_new w _
    · refine cell_of_one (t := 27) ?_
      have := heap_alloc_new (w.alloc (.cells #[v] 28)) (.cells #[.slice a n c] 27)
      rw [← hW2]
      simpa using this
    · rw [← hW2]; simp
    · rw [← hW2]
      exact ((Below.refl _ w).alloc (Nat.le_refl _) _).alloc (by simp) _
    · rw [← hW2]; simp
  rcases hv with rfl | ⟨r, rfl⟩
  · go_enter Try.func24, Try.ntmps24
    go_wp2
    go_ret
    exact ⟨rfl, HC.out⟩
  · go_enter Try.func24, Try.ntmps24
    go_wp2
    go_ret
    exact ⟨rfl, HC.out⟩

/-- What a number is told by. -/
def ghV (h : Gh) : Array Value := #[.int .i64 h.n, .agg #[.int .i64 h.u, .int .i64 h.m]]
theorem rowN_at {w : World} {base n c k : Nat} {a : Option Addr} {S : List Gh} {x : Gh} (h : w.ownsRow base 3 1 (.slice a n c) n (rowN S)) (hk : k < n) (hx : S[k]? = some x) : ∃ g, a = some ⟨g, 0, none⟩ ∧ w.cell? ⟨g, k, none⟩ = some (.int .i64 x.n) := by
  obtain ⟨g, h1, h2, _⟩ := row_at h hk
  refine ⟨g, h1, h2.trans ?_⟩
  unfold rowN
  rw [List.getElem?_map, hx]
  rfl
set_option maxRecDepth 100000 in
set_option maxHeartbeats 1000000 in
theorem others_iter {v : Value} {a : Option Addr} {c q : Nat} {L : List Gh} {bs : List Int} {K0 : Nat → Prop} (w : World) (hc : CapU w q v a bs.length c) (hbk : BookP w v L) (hG : Gok L) (hi : IntsAt .i64 w a bs)
    (hbs : ∀ b ∈ bs, -9223372036854775808 ≤ b ∧ b ≤ 9223372036854775807) (hl : bs.length ≤ 100) (hL : L.length ≤ 100) :
    Iterates Try.prog 27 (uLb q) ghV K0 (fun k h _ => (srt (butG L bs))[k]? = some h) (fun k _ => k + 1) 0 (fun k => k = (srt (butG L bs)).length) (fun _ => True) w := by
  intro l J Jx hJ hJx hR W hW h0
  have HR : Hid (Rounds Try.prog l ghV K0 (fun k h _ => (srt (butG L bs))[k]? = some h) (fun k _ => k + 1) J Jx) := hR
  have HJ : Hid (Abides J) := hJ
  have H0 : Hid (J 0 (fun _ => False) W) := h0
  have hi2 : ∀ i, i < bs.length → ∃ b off, a = some ⟨b, off, none⟩ ∧ b < w.heap.size ∧ W.cell? ⟨b, off + i, none⟩ = some (.int .i64 (bs.getD i 0)) := by
    intro i hi3
    rcases hi with rfl | ⟨b, off, rfl, hlt, hc⟩
    · simp at hi3
    · exact ⟨b, off, rfl, hlt, by rw [hW.cell (p := ⟨b, off + i, none⟩) hlt]; exact hc i hi3⟩
  have hsW := hW.size
  obtain ⟨c0, c1, hlt⟩ := hc.below hW
  have hbW := hbk.below hW
  clear hR hJ h0 hc hbk hi
  unfold uLb
  refine (callsIn_wide (n := 3)).1 ?_
  refine callsIn_of_wp Try.func27 rfl trivial ?_ rfl
  simp only [List.append_toArray, List.cons_append, List.nil_append]
  simp only [Try.ntmps27, List.size_toArray, List.length_cons, List.length_nil, Nat.reduceAdd, Nat.reduceSub, Array.replicate_succ, Array.replicate_zero, List.push_toArray, List.append_toArray, List.nil_append, List.cons_append]
  rcases hbW with ⟨rfl, rfl⟩ | ⟨r, b, rfl, hbk⟩
  · clear hi2
    gi_wp2_with fail
    refine bodyPost_ret (results_none rfl _ _ _) rfl ?_
    exact ⟨⟨_, rfl⟩, .inl ⟨0, fun _ => False, (srt_perm (butG [] bs)).length_eq.symm, H0.out⟩⟩
  · have d0 := hbk.cell
    have HCl : Hid _ := clone_at W hbk.mp
    clear hbk hW
    gi_wp2_with fail
    refine ⟨trivial, CallsIn.mono (callsIn_wide.2 HCl.out) ?_⟩
    rintro e W1 ⟨rfl, hm1, hb1, hs1⟩
    obtain ⟨g, hg⟩ : ∃ g, W.heap.size = g := ⟨_, rfl⟩
    rw [hg] at hm1 hb1 hs1 ⊢
    have x1 := (hb1.cell (p := ⟨q + 1, 0, none⟩) (by show q + 1 < g; omega)).trans c1
    have HM1 : Hid (MapAt W1 g L) := hm1
    have HGo : Hid (Gok L) := hG
    obtain ⟨n, hn⟩ : ∃ n, bs.length = n := ⟨_, rfl⟩
    have HI : Hid (∀ i, i < bs.length → ∃ b off, a = some ⟨b, off, none⟩ ∧ b < w.heap.size ∧ W.cell? ⟨b, off + i, none⟩ = some (.int .i64 (bs.getD i 0))) := hi2
    have HBS : Hid (∀ b ∈ bs, -9223372036854775808 ≤ b ∧ b ≤ 9223372036854775807) := hbs
    have HB1 : Hid (Below g W W1) := hb1
    have HG : Hid (∀ j, Gok ((bs.take j).foldl delG L)) := fun j => by
      rw [butG_del]; exact hG.filter _
    have HN : Hid (bs.length = n) := hn
    rw [hn] at x1 hl
    clear hi2 hbs hG hm1 hb1 HCl c0 c1 d0 hn
    gi_wp2_with fail
    gi_loopw [18] (fun i wr => ∃ k : Nat, k ≤ n ∧ i = .int .i64 k ∧ MapAt wr g ((bs.take k).foldl delG L) ∧ W1.grownBy wr (some g)) (fun i _ => n - (intOf i).toNat)
    case atStart => exact ⟨0, by omega, rfl, by rw [List.take_zero]; exact HM1.out, World.grownBy.refl _ _⟩
    case round =>
      obtain ⟨k, hk, rfl, hm, hgr⟩ := hrel
      by_cases hlt2 : k < n
      · have i1 : (k : Int) < (n : Int) := by omega
        have hkb : k < bs.length := by rw [HN.out]; exact hlt2
        obtain ⟨b', off, rfl, hb', hcell⟩ := HI.out k hkb
        have hx : bs.getD k 0 ∈ bs := by
          rw [List.getD_eq_getElem?_getD, List.getElem?_eq_getElem hkb]
          exact List.getElem_mem _
        have hbd := HBS.out _ hx
        have htk : (bs.take (k + 1)).foldl delG L = delG ((bs.take k).foldl delG L) (bs.getD k 0) := by
          rw [List.take_add_one, List.foldl_append, List.getD_eq_getElem?_getD, List.getElem?_eq_getElem hkb]
          rfl
        have hc2 : wr.cell? ⟨b', off + k, none⟩ = some (.int .i64 (bs.getD k 0)) := by
          rw [World.cell?_of_block (hgr.block b' (by omega) (by intro e; simp at e; omega)), World.cell?_of_block (HB1.out.block b' (by omega))]
          exact hcell
        obtain ⟨w2, hrun, hm2, hg2⟩ := hm.del (HG.out k) hbd 0
        have HM2 : Hid (MapAt w2 g ((bs.take (k + 1)).foldl delG L)) := by rw [htk]; exact hm2
        have HG2 : Hid (W1.grownBy w2 (some g)) := hgr.trans hg2
        clear hcell hx hm hgr hm2 hg2 htk
        generalize bs.getD k 0 = y at *
        gi_wp2_with fail
        go_roundw
        case rel => exact ⟨k + 1, by omega, by go_num, HM2.out, HG2.out⟩
        case measure => simp [intOf]; omega
      · have i1 : ¬ (k : Int) < (n : Int) := by omega
        have HM2 : Hid (MapAt wr g (butG L bs)) := by
          have e : bs.take k = bs := List.take_of_length_le (by rw [HN.out]; omega)
          rw [e, butG_del] at hm
          exact hm
        have HG2 : Hid (W1.grownBy wr (some g)) := hgr
        have HGB : Hid (Gok (butG L bs)) := HGo.out.filter _
        have hLB : (butG L bs).length ≤ 100 := Nat.le_trans (List.length_filter_le _ _) hL
        have hsr := hgr.size
        clear hm hgr
        gi_wp2_with fail
        refine ⟨trivial, CallsIn.mono (callsIn_wide.2 (keys_any (some g) wr)) ?_⟩
        rintro e W2 ⟨rfl, hW2⟩
        obtain ⟨q2, hq2⟩ : ∃ q2, wr.heap.size = q2 := ⟨_, rfl⟩
        have hs2 : W2.heap.size = q2 + 1 := by rw [hW2, ← hq2]; simp
        have hc2 : W2.cell? ⟨q2, 0, none⟩ = some (.map (some g)) := by
          rw [hW2, ← hq2]
          exact cell_of_one (heap_alloc_new wr _)
        have hb2 : Below q2 wr W2 := by rw [hW2, ← hq2]; exact (Below.refl _ wr).alloc (Nat.le_refl _) _
        have hm2 : MapAt W2 g (butG L bs) := HM2.out.below (hq2 ▸ hb2)
        have HSo : Hid _ := sorted_at (q := q2) W2 hm2 HGB.out hLB hc2 (by omega)
        rw [hq2]
        clear hW2
        gi_wp2_with fail
        refine ⟨trivial, CallsIn.mono (callsIn_wide.2 HSo.out) ?_⟩
        rintro e W3 ⟨av, cv, rfl, hrow, hb3⟩
        have hs3 := hb3.size
        rw [hs2] at hrow hb3 hs3
        have hm3 : MapAt W3 g (butG L bs) := hm2.below (by rw [hs2]; exact hb3)
        have hb13 : Below g W W3 := HB1.out.trans (((Below.refl g W1).grown HG2.out (by omega) (fun i hi => by cases hi; omega)).trans ((hb2.mono (by omega)).trans (hb3.mono (by omega))))
        obtain ⟨M, hM⟩ : ∃ M : Nat → Prop, M = fun i => i = g ∨ (Value.slice av (srt (butG L bs)).length cv).ownBlock = some i := ⟨_, rfl⟩
        have hMn : ∀ i, M i → False ∨ (W.heap.size ≤ i ∧ i < W3.heap.size) := by
          intro i hi3
          rw [hM] at hi3
          right
          rcases hi3 with h1 | h1
          · omega
          · have := hrow.lt i h1
            omega
        have hJ3 : J 0 M W3 := HJ.out _ _ _ _ _ H0.out (keeps_below hb13 (fun i hi3 _ => by omega)) hMn
        have hrl := hrow.1
        obtain ⟨S, hS⟩ : ∃ S, srt (butG L bs) = S := ⟨_, rfl⟩
        rw [hS] at hrow hM ⊢
        have HST : Hid (srt (butG L bs) = S) := hS
        obtain ⟨ns, hns⟩ : ∃ ns, S.length = ns := ⟨_, rfl⟩
        have hns2 : ns ≤ 100 := by rw [← hns, ← hS, (srt_perm _).length_eq]; exact hLB
        rw [hns] at hrow hM ⊢
        have HL : Hid (S.length = ns) := hns
        have HMM : Hid (M = fun i => i = g ∨ (Value.slice av ns cv).ownBlock = some i) := hM
        have HJ3 : Hid (J 0 M W3) := hJ3
        have HM3 : Hid (MapAt W3 g (butG L bs)) := hm3
        have HRW : Hid (W3.ownsRow (q2 + 1) 3 1 (.slice av ns cv) ns (rowN S)) := hrow
        clear hJ3 hMn hb13 hm3 hb3 hrow HSo hm2 hb2 hc2 hM hS hns hrl HM2 HG2 HB1 HM1 x1 HI
        gi_wp2_with fail
        gi_loopw [29] (fun i wr => ∃ k : Nat, k ≤ ns ∧ i = .int .i64 k ∧ J k M wr ∧ MapAt wr g (butG L bs) ∧ wr.ownsRow (q2 + 1) 3 1 (.slice av ns cv) ns (rowN S)) (fun i _ => ns - (intOf i).toNat)
        case atStart => exact ⟨0, by omega, rfl, HJ3.out, HM3.out, HRW.out⟩
        case round =>
          obtain ⟨k, hk, rfl, hJk, hm, hrow⟩ := hrel
          by_cases hlt3 : k < ns
          · have i1 : (k : Int) < (ns : Int) := by omega
            obtain ⟨x, hx⟩ : ∃ x, S[k]? = some x := ⟨_, List.getElem?_eq_getElem (by rw [HL.out]; exact hlt3)⟩
            obtain ⟨gs, rfl, hcell⟩ := rowN_at hrow hlt3 hx
            have hxm : x ∈ butG L bs := by
              rw [← (srt_perm (butG L bs)).mem_iff, HST.out]
              exact List.mem_of_getElem? hx
            have hlk := hm.look HGB.out hxm
            have hrlt := hrow.lt gs rfl
            have hmlt := hm.lt
            obtain ⟨fn, tmps, assign, body, hy, hRd⟩ := HR.out 2 k M x wr hJk (by show (srt (butG L bs))[k]? = some x; rw [HST.out]; exact hx) (fun i hi3 => by
              rw [HMM.out] at hi3
              rcases hi3 with h1 | h1
              · omega
              · exact (hrow.lt i h1).2)
            obtain ⟨xn, xu, xm⟩ := x
            have hV : ghV ⟨xn, xu, xm⟩ = #[.int .i64 xn, .agg #[.int .i64 xu, .int .i64 xm]] := rfl
            rw [hV] at hy
            simp only at hlk hcell
            have HRd : Hid _ := hRd
            have HMP : Hid (MapAt wr g (butG L bs)) := hm
            have HRO : Hid (wr.ownsRow (q2 + 1) 3 1 (.slice (some ⟨gs, 0, none⟩) ns cv) ns (rowN S)) := hrow
            clear hRd hV hJk hm hrow hx hxm
            gi_wp2_with fail
            refine RoundIn.mono HRd.out ?_
            rintro e4 W4 ⟨hk4, ⟨rfl, hJ4⟩ | ⟨rfl, hJx4⟩⟩
            · have HJ4 : Hid (J (k + 1) M W4) := hJ4
              have HM4 : Hid (MapAt W4 g (butG L bs)) := HMP.out.keeps hk4 (.inr (by rw [HMM.out]; exact .inl rfl))
              have HR4 : Hid (W4.ownsRow (q2 + 1) 3 1 (.slice (some ⟨gs, 0, none⟩) ns cv) ns (rowN S)) := hk4.row HRO.out (fun i hi3 => .inr (by rw [HMM.out]; exact .inr hi3))
              clear hJ4 hk4 hy hlk hcell
              gi_wp2
              go_roundw
              case rel => exact ⟨k + 1, by omega, by go_num, HJ4.out, HM4.out, HR4.out⟩
              case measure => simp [intOf]; omega
            · have HJ4 : Hid (Jx (k + 1) M W4) := hJx4
              clear hJx4 hk4 hy hlk hcell
              gi_wp2
              refine bodyPost_ret (results_none rfl _ _ _) rfl ?_
              exact ⟨⟨_, rfl⟩, .inr ⟨k + 1, _, trivial, HJ4.out⟩⟩
          · have i1 : ¬ (k : Int) < (ns : Int) := by omega
            have HE : Hid (k = (srt (butG L bs)).length ∧ J k M wr) := ⟨by rw [HST.out, HL.out]; omega, hJk⟩
            gi_wp2
            go_end0
            exact ⟨⟨_, rfl⟩, .inl ⟨k, M, HE.out.1, HE.out.2⟩⟩
end Go.Proofs.Ythjacjckobkhmaa
