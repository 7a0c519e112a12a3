/- The walks of Len and Of. -/
import Derived.Test.YtlnkelhhemgibaaVIter
import Derived.Test.YtlnkelhhemgibaaGLoc
import Derived.Deep.AppendLies
namespace Go.Proofs.Ytlnkelhhemgibaa
open Go.RowKit
attribute [local go_sem] Oper.semAt_some

def LenI (w : World) (q : Nat) (T : Int → Pl) (s : Nat) (M : Nat → Prop) (W : World) : Prop := Loc w q 1 M W ∧ W.heap[q]? = some (.cells #[.int .i64 (cntT T s : Nat)] 3 (0, 0)) ∧ s ≤ 513
theorem len_abides (w : World) (q : Nat) (T : Int → Pl) : Abides (LenI w q T) := by
  rintro s M M' W W' ⟨h1, h2, h3⟩ hk hM
  exact ⟨h1.kept hk hM, hk.at h2 (h1.no (by omega)), h3⟩
set_option maxRecDepth 100000 in
set_option maxHeartbeats 1000000 in
theorem len_any {v : Value} {T : Int → Pl} (w : World) (hT : TabP w v T) :
    Calls Try.prog 10 #[v] w fun e w' => e = .returned (.int .i64 (cntT T 513 : Nat)) ∧ Below w.heap.size w w' := by
  have hv := hT.v
  obtain ⟨W1, hW1⟩ : ∃ W1, W1 = w.alloc (.cells #[.int .i64 0] 3) := ⟨_, rfl⟩
  have hb1 : Below w.heap.size w W1 := by rw [hW1]; exact (Below.refl _ w).alloc (Nat.le_refl _) _
  have hs1 : W1.heap.size = w.heap.size + 1 := by rw [hW1]; simp
  have r1 : W1.heap[w.heap.size]? = some (.cells #[.int .i64 0] 3 (0, 0)) := by rw [hW1]; exact heap_alloc_new w _
  have HO : Hid _ := used_any v W1 hv
  refine (callsIn_wide (n := 3)).1 ?_
  refine callsIn_of_wp_marks Try.func10 rfl trivial ?_ rfl
  simp only [Try.ntmps10, List.size_toArray, List.length_cons, List.length_nil, Nat.reduceAdd, Nat.reduceSub, Array.replicate_succ, Array.replicate_zero, List.push_toArray, List.append_toArray, List.nil_append, List.cons_append]
  gi_wp2_with fail
  rw [← hW1]
  clear hW1
  refine ⟨trivial, CallsIn.mono (callsIn_wide.2 HO.out) ?_⟩
  rintro e W0 ⟨rfl, hc, hb0, hs0⟩
  rw [hs1] at hc hb0 hs0 ⊢
  have hbw : Below w.heap.size w W0 := hb1.trans (hb0.mono (by omega))
  have hT0 := hT.later hbw
  have r0 := (hb0.block _ (by omega)).trans r1
  have hit := used_iter (K0 := fun _ => False) W0 hc (by omega) hT0
  clear hc hT hT0 HO hb1 hb0 r1 hv
  gi_wp2_with fail
  refine range_wp (gf := 24) (lb := vLb (w.heap.size + 1)) rfl (enters_of Try.func24 (by kernel_rfl) rfl)
    hit (fun i hi => hi.elim) (fun _ => rfl) (LenI w w.heap.size T) (fun _ _ _ => False) (len_abides w w.heap.size T) (fun _ _ _ _ _ h _ _ => h)
    ⟨⟨hbw, by omega, fun _ h => h.elim⟩, r0, by omega⟩
    (fun x W a1 W1 => W1 = W ∧ a1 = { tmps := #[v, undef, .int .i64 0, .pointer (some ⟨w.heap.size, 0, none⟩), v, .func (.func 24) #[] (vLb (w.heap.size + 1)), .int .i64 (x : Nat), .agg #[.int .i64 (T x).p, .int .i64 (T x).o, .int .i64 (T x).l], undef, undef, undef], defers := [] }) ?assign ?body ?done ?stop
  case assign =>
    intro m l x W K hK
    unfold hV
    gi_wp2
    exact hK _ _ (Below.refl _ W) ⟨rfl, by simp⟩
  case body =>
    rintro m l s M x W a1 W1 Wr ⟨hlc, hrv, hsl⟩ ⟨hsx, hx, hu, hg⟩ hMl hl2 hM hbW ⟨rfl, rfl⟩ hlp hk hsz
    have hlc2 : Loc w w.heap.size 1 M Wr := hlc.kept (hk.mono fun k _ h1 h2 => h1 (h2 ▸ hMl)) (fun _ h => .inl h)
    have hne := hlc.out l hMl
    have hrv2 := hk.at hrv (by omega)
    have HC : Hid (cntT T (x + 1) = cntT T s + 1) := cnt_used hg hsx hu
    have hcl := cnt_le T s
    have HLc : Hid (Loc w w.heap.size 1 M Wr) := hlc2
    obtain ⟨R, hR⟩ : ∃ R, cntT T s = R := ⟨_, rfl⟩
    rw [hR] at hrv2 HC hcl
    have HR : Hid (Wr.heap[w.heap.size]? = some (.cells #[.int .i64 (R : Nat)] 3 (0, 0))) := hrv2
    have c0 := cell_of_one hrv2
    have f0 := free_of_one hrv2
    have hR2 : R ≤ 513 := by omega
    clear hlc hrv hsl hMl hl2 hM hbW hlp hk hlc2 hrv2 hR hsz hcl hit hu hg hsx hne
    gi_wp2
    have k6 := setCell_keeps Wr w.heap.size (.int .i64 ((R : Int) + 1))
    refine ⟨k6.mono fun i _ h5 => ?_, HLc.out.own (k6.mono fun i _ h5 => by omega), ?_, by omega⟩
    · rcases h5 with h5 | h5
      · exact h5.elim
      · have := HLc.out.out i h5
        omega
    · rw [HC.out]
      exact one_setCell HR.out
  case done =>
    rintro D s M W hD ⟨hs, hg⟩ hMD ⟨hlc, hrv, _⟩ hK
    rw [← hg.cnt hs] at hrv
    have c0 := cell_of_one hrv
    have hbel := hlc.bel
    have hsiz := hlc.siz
    have hout := hlc.out D hMD
    clear hlc hrv hit hg
    gi_wp2
    refine ⟨by simp, .inl ⟨D, _, rfl, run_takeDeferred hK, ?_⟩⟩
    have hp := keeps_put W D (.deferred none)
    exact ⟨_, results_tmp Try.results10 _ _ _, rfl, hbel.trans (hp.below (fun i h5 => by omega) (by omega))⟩
  case stop =>
    rintro D k M W _ _ _ h _
    exact h.elim
theorem len_is {v : Value} {T : Int → Pl} {n : Nat} (w : World) (hT : TabP w v T) (hn : cntT T 513 = n) :
    Calls Try.prog 10 #[v] w fun e w' => e = .returned (.int .i64 (n : Nat)) ∧ Below w.heap.size w w' := by subst hn; exact len_any w hT
end Go.Proofs.Ytlnkelhhemgibaa
