/- The walk of VectorMeant. -/
import Derived.Test.YtmldedkmmhnihaaDoorVFull
import Derived.Test.YtmldedkmmhnihaaDoorVecM
import Derived.Deep.RegionLaw
namespace Go.Proofs.YtmldedkmmhnihaaDoor
open Go.RowKit

set_option maxHeartbeats 4000000 in
set_option maxRecDepth 100000 in
theorem vmeant_bad {ad : Option Addr} {cap m : Nat} {ops : List VopT} (w : World) (hT : Hid (Tab w)) (C N : Int) (K L M : Int) (HA : Hid (shO.At w ad cap ops)) (hm : Hid (ops.length = m)) (hm2 : m ≤ 5864062014634) (h : C < 1 ∨ 8 < C ∨ N < 0 ∨ 2000 < N) :
    Calls Tryd.prog 3 #[.int .i64 C, .int .i64 N, .slice ad m cap, .agg #[.int .i64 K, .int .i64 L, .int .i64 M]] w fun e w' => e = .returned (.bool true) ∧ Below w.heap.size w w' := by
  have HB := Lib.hid h
  clear h
  obtain ⟨i0, hi, hz0, hz1, hz2⟩ := info_parts info_op
  have B0 := below_alloc w (.cells #[.int .i64 K, .int .i64 L, .int .i64 M] 24)
  have HT0 := Lib.hid (tab_step hT.out B0)
  have HA0 := Lib.hid (HA.out.step B0)
  have O0 := Lib.hid (heap_alloc_new w (.cells #[.int .i64 K, .int .i64 L, .int .i64 M] 24))
  go_enter Tryd.func3, Tryd.ntmps3
  go_upto_region 4 with (first
    | (go_at_call 5; (with_reducible refine (alive4_R _ HT0).mono ?_); rintro e w1 ⟨rfl, hb⟩; have B1 := pstep B0 hb; have HA1 := Lib.hid (HA0.out.step hb); have HT1 := Lib.hid (tab_step HT0.out hb); have O1 := Lib.hid ((hb.block w.heap.size (by simp)).trans O0.out); clear hb)
    | (go_at_call 6; (with_reducible refine (play_bad C N _ _ HB.out).mono ?_); rintro e w2 ⟨rfl, hb⟩; have B2 := pstep B1 hb; have HA2 := Lib.hid (HA1.out.step hb); have HT2 := Lib.hid (tab_step HT1.out hb); have hO1 := (Array.getElem?_eq_some_iff.1 O1.out).1; have O2 := Lib.hid ((hb.block w.heap.size hO1).trans O1.out); clear hb hO1)
    | fail)
  have c0 : w2.cell? ⟨w.heap.size, 0, none⟩ = some (.int .i64 K) := by rw [cell_of_row w2 _ _ _ _ _ O2.out]; rfl
  have c1 : w2.cell? ⟨w.heap.size, 1, none⟩ = some (.int .i64 L) := by rw [cell_of_row w2 _ _ _ _ _ O2.out]; rfl
  have c2 : w2.cell? ⟨w.heap.size, 2, none⟩ = some (.int .i64 M) := by rw [cell_of_row w2 _ _ _ _ _ O2.out]; rfl
  have hO2 := (Array.getElem?_eq_some_iff.1 O2.out).1
  have hS2 := B2.size
  have HNEW : ∀ (b : Nat) (w' : World), w'.cell? ⟨b, 0, none⟩ = some (.int .i64 K) → w'.cell? ⟨b, 1, none⟩ = some (.int .i64 L) → w'.cell? ⟨b, 2, none⟩ = some (.int .i64 M) → ∀ j u, ([.int .i64 K, .int .i64 L, .int .i64 M] : List Value)[j]? = some u → w'.cell? ((⟨b, 0, none⟩ : Addr).add j) = some u := by
    intro b w' h0 h1 h2 j u hj
    rw [Go.WideShapes.add_plain, Nat.zero_add]
    have h3 : j = 0 ∨ j = 1 ∨ j = 2 := by
      have := (List.getElem?_eq_some_iff.1 hj).1
      simp at this
      omega
    rcases h3 with rfl | rfl | rfl <;> simp at hj <;> subst hj <;> assumption
  have HONE : ∀ u ∈ ([.int .i64 K, .int .i64 L, .int .i64 M] : List Value), u.oneCell' = true := by
    intro u hu
    simp at hu
    rcases hu with rfl | rfl | rfl <;> rfl
  go_cut [12, 13, 14] from 27 (fun x y z wy => x = .slice none 0 0 ∧ y = .slice none 0 0 ∧ z = .int .i64 2 ∧ Below w.heap.size w wy)
  case first =>
    go_region_law (first
      | (go_simp; go_at_call 7; (with_reducible refine (clone_ops ops ad m cap (w2.drew) hm (Lib.hid (HA2.out.step ((Below.refl _ w2).drew))) hm2).mono ?_); rintro e w3 ⟨ra, rc, rfl, own, hb⟩; have GO := bat' hb w.heap.size (by simp; omega); have B3 : Below w2.heap.size w2 w3 := pstep ((Below.refl _ w2).drew) hb; have S3b : w2.heap.size ≤ w3.heap.size := (by have := hb.size; simp at this; omega); have OW := Lib.hid own; have HWB : ∀ k, (Value.slice ra m rc).ownBlock = some k → w2.heap.size ≤ k := (fun k hk => by have := (own.lt k hk).1; simp at this; omega); clear hb own)
      | (go_simp; go_at_call 7; (with_reducible refine (clone_ops ops ad m cap ((w2.alloc (.cells #[.int .i64 K, .int .i64 L, .int .i64 M] 24)).drew) hm (Lib.hid (HA2.out.step ((below_alloc w2 (.cells #[.int .i64 K, .int .i64 L, .int .i64 M] 24)).drew))) hm2).mono ?_); rintro e w3 ⟨ra, rc, rfl, own, hb⟩; have GO := bat' hb w.heap.size (by simp; omega); have GL := bat' hb w2.heap.size (by simp); have B3 : Below w2.heap.size w2 w3 := pstep ((below_alloc w2 (.cells #[.int .i64 K, .int .i64 L, .int .i64 M] 24)).drew) hb; have S3b : w2.heap.size ≤ w3.heap.size := (by have := hb.size; simp at this; omega); have OW := Lib.hid own; have HWB : ∀ k, (Value.slice ra m rc).ownBlock = some k → w2.heap.size ≤ k := (fun k hk => by have := (own.lt k hk).1; simp at this; omega); clear hb own)
      | (refine step_append_lies _ rfl _ _ 22 rfl _ 24 i0 _ 3 24 Tryd.underlying22 hi hz0 hz1 hz2 rfl (by decide) (.slice ra m rc) m (shO.flat ops) rfl (own_alloc OW.out _) ⟨w3.heap.size, 0, none⟩ 1 1 [.int .i64 K, .int .i64 L, .int .i64 M] rfl rfl (HNEW _ _ (by go_simp) (by go_simp) (by go_simp)) HONE (by decide) (by unfold maxLen; omega) (by omega) (by simp; try omega) _ rfl ?_; intro g4 rc2 w4 own4 grow4 _ _; have B24 := (below_more B3 _).grown grow4 (Below.size (below_more B3 _)) HWB; have B4 := pstep B2 B24; have HA4 : Hid (shO.At w4 (some ⟨g4, 0, none⟩) rc2 (ops ++ [⟨K, L, M⟩])) := Lib.hid (own_at (by rw [shO.flat_app]; exact own4) (by simp [hm.out])); have HT4 := Lib.hid (tab_step HT2.out B24); have HM4 : Hid ((ops ++ [(⟨K, L, M⟩ : VopT)]).length = m + 1) := Lib.hid (by simp [hm.out]); clear own4 grow4)
      | (refine step_append_lies _ rfl _ _ 22 rfl _ 24 i0 _ 3 24 Tryd.underlying22 hi hz0 hz1 hz2 rfl (by decide) (.slice ra m rc) m (shO.flat ops) rfl (OW.out) ⟨w2.heap.size, 0, none⟩ 1 1 [.int .i64 K, .int .i64 L, .int .i64 M] rfl rfl (HNEW _ _ (by go_simp) (by go_simp) (by go_simp)) HONE (by decide) (by unfold maxLen; omega) (by omega) (by simp; try omega) _ rfl ?_; intro g4 rc2 w4 own4 grow4 _ _; have B24 := B3.grown grow4 (Below.size B3) HWB; have B4 := pstep B2 B24; have HA4 : Hid (shO.At w4 (some ⟨g4, 0, none⟩) rc2 (ops ++ [⟨K, L, M⟩])) := Lib.hid (own_at (by rw [shO.flat_app]; exact own4) (by simp [hm.out])); have HT4 := Lib.hid (tab_step HT2.out B24); have HM4 : Hid ((ops ++ [(⟨K, L, M⟩ : VopT)]).length = m + 1) := Lib.hid (by simp [hm.out]); clear own4 grow4)
      | (go_simp; go_at_call 6; (with_reducible refine (play_bad C N _ _ HB.out).mono ?_); rintro e w5 ⟨rfl, hb⟩; have B5 := pstep B4 hb; clear hb))
    all_goals go_wp2_with fail
    all_goals go_meet
    all_goals exact ⟨rfl, rfl, rfl, B5⟩
  case rest =>
    obtain ⟨rfl, rfl, rfl, BB⟩ := hcut
    go_wp2_with fail
    go_ret
    exact ⟨rfl, BB⟩
end Go.Proofs.YtmldedkmmhnihaaDoor
