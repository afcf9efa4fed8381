/- corebellref's EPlan, corebelllaw's samePlan. -/
import Derived.Test.YtocemkbplgkalaaSprEo
import Derived.Test.YtocemkbplgkalaaSprBe
import Derived.Deep.CutRange
namespace Go.Proofs.Ytocemkbplgkalaa
open Go.RowKit

/-- The memory of EPlan: the result, the cores' row, the plan, the loads' row. -/
def ES (W0 : World) (m n mo : Nat) (L A : Nat → Nat) (w : World) : Prop :=
  (Below W0.heap.size W0 w ∧ RowI w (W0.heap.size + 1) n A ∧ RowI w (W0.heap.size + 1 + 1 + 1) m L) ∧
  w.heap[W0.heap.size]? = some (.cells #[.slice none 0 0, .int .i64 0] 24 (0, 0)) ∧
  w.heap[W0.heap.size + 1 + 1]? = some (.cells #[.slice (some ⟨W0.heap.size + 1, 0, none⟩) n n, .int .i64 (mo : Int)] 24 (0, 0))
section
variable {W0 w : World} {m n mo : Nat} {L A : Nat → Nat}
theorem ES.drew (s : ES W0 m n mo L A w) : ES W0 m n mo L A w.drew := ⟨⟨s.1.1.drew, s.1.2⟩, s.2⟩
theorem ES.drewN (s : ES W0 m n mo L A w) (q : Nat) : ES W0 m n mo L A (w.drewN q) := ⟨⟨below_drewN s.1.1 q, s.1.2⟩, s.2⟩
theorem ES.putL (s : ES W0 m n mo L A w) {c : Nat} (hc : c < m) (v : Nat) : ES W0 m n mo (upd L c v) A (w.setCell ⟨W0.heap.size + 1 + 1 + 1, c, none⟩ (.int .i64 (v : Int))) := by
  obtain ⟨⟨h1, h2, h3⟩, h4, h5⟩ := s
  have ho : ∀ k, ¬ k = W0.heap.size + 1 + 1 + 1 → (w.setCell ⟨W0.heap.size + 1 + 1 + 1, c, none⟩ (.int .i64 (v : Int))).heap[k]? = w.heap[k]? := fun k hk => heap_setCell_other _ _ _ _ (show k ≠ (⟨W0.heap.size + 1 + 1 + 1, c, none⟩ : Addr).block from hk)
  exact ⟨⟨h1.setCell (p := ⟨W0.heap.size + 1 + 1 + 1, c, none⟩) (by show W0.heap.size ≤ W0.heap.size + 1 + 1 + 1; omega) _, h2.same (ho _ (by omega)), h3.put hc v⟩, by rw [ho _ (by omega)]; exact h4, by rw [ho _ (by omega)]; exact h5⟩
theorem ES.putA (s : ES W0 m n mo L A w) {k : Nat} (hk : k < n) (v : Nat) : ES W0 m n mo L (upd A k v) (w.setCell ⟨W0.heap.size + 1, k, none⟩ (.int .i64 (v : Int))) := by
  obtain ⟨⟨h1, h2, h3⟩, h4, h5⟩ := s
  have ho : ∀ j, ¬ j = W0.heap.size + 1 → (w.setCell ⟨W0.heap.size + 1, k, none⟩ (.int .i64 (v : Int))).heap[j]? = w.heap[j]? := fun j hj => heap_setCell_other _ _ _ _ (show j ≠ (⟨W0.heap.size + 1, k, none⟩ : Addr).block from hj)
  exact ⟨⟨h1.setCell (p := ⟨W0.heap.size + 1, k, none⟩) (by show W0.heap.size ≤ W0.heap.size + 1; omega) _, h2.put hk v, h3.same (ho _ (by omega))⟩, by rw [ho _ (by omega)]; exact h4, by rw [ho _ (by omega)]; exact h5⟩
theorem ES.putM (s : ES W0 m n mo L A w) (v : Nat) : ES W0 m n v L A (w.setCell ⟨W0.heap.size + 1 + 1, 1, none⟩ (.int .i64 (v : Int))) := by
  obtain ⟨⟨h1, h2, h3⟩, h4, h5⟩ := s
  have ho : ∀ j, ¬ j = W0.heap.size + 1 + 1 → (w.setCell ⟨W0.heap.size + 1 + 1, 1, none⟩ (.int .i64 (v : Int))).heap[j]? = w.heap[j]? := fun j hj => heap_setCell_other _ _ _ _ (show j ≠ (⟨W0.heap.size + 1 + 1, 1, none⟩ : Addr).block from hj)
  exact ⟨⟨h1.setCell (p := ⟨W0.heap.size + 1 + 1, 1, none⟩) (by show W0.heap.size ≤ W0.heap.size + 1 + 1; omega) _, h2.same (ho _ (by omega)), h3.same (ho _ (by omega))⟩, by rw [ho _ (by omega)]; exact h4, heap_setCell_same w (W0.heap.size + 1 + 1) 1 _ _ _ h5⟩
theorem ES.cells (s : ES W0 m n mo L A w) : (w.cell? ⟨W0.heap.size + 1 + 1, 0, none⟩ = some (.slice (some ⟨W0.heap.size + 1, 0, none⟩) n n) ∧ w.cell? ⟨W0.heap.size + 1 + 1, 1, none⟩ = some (.int .i64 (mo : Int)) ∧ w.frozen? ⟨W0.heap.size + 1 + 1, 1, none⟩ = false) ∧
    w.cell? ⟨W0.heap.size, 0, none⟩ = some (.slice none 0 0) ∧ w.cell? ⟨W0.heap.size, 1, none⟩ = some (.int .i64 0) ∧ w.frozen? ⟨W0.heap.size, 0, none⟩ = false ∧ w.frozen? ⟨W0.heap.size, 1, none⟩ = false := by
  obtain ⟨_, h4, h5⟩ := s
  exact ⟨⟨by rw [cell_of_row w _ 0 _ _ _ h5]; rfl, by rw [cell_of_row w _ 1 _ _ _ h5]; rfl, frozen_of_row w _ 1 _ _ h5⟩, by rw [cell_of_row w _ 0 _ _ _ h4]; rfl, by rw [cell_of_row w _ 1 _ _ _ h4]; rfl, frozen_of_row w _ 0 _ _ h4, frozen_of_row w _ 1 _ _ h4⟩
end
theorem ES.start (w : World) (m n : Nat) : ES w m n 0 (fun _ => 0) (fun _ => 0) ((((w.alloc (.cells #[.slice none 0 0, .int .i64 0] 24)).alloc (.cells (madeCells #[.int .i64 0] n) 3)).alloc (.cells #[.slice (some ⟨w.heap.size + 1, 0, none⟩) n n, .int .i64 0] 24)).alloc (.cells (madeCells #[.int .i64 0] m) 3)) := by
  refine ⟨⟨below_more (below_more (below_more (below_more (Below.refl _ _) _) _) _) _, ?_, ?_⟩, ?_, ?_⟩
  · have := RowI.fresh (w.alloc (.cells #[.slice none 0 0, .int .i64 0] 24)) n
    have := (this.step (below_al _ (.cells #[.slice (some ⟨w.heap.size + 1, 0, none⟩) n n, .int .i64 0] 24))).step (below_al _ (.cells (madeCells #[.int .i64 0] m) 3))
    simpa using this
  · have := RowI.fresh (((w.alloc (.cells #[.slice none 0 0, .int .i64 0] 24)).alloc (.cells (madeCells #[.int .i64 0] n) 3)).alloc (.cells #[.slice (some ⟨w.heap.size + 1, 0, none⟩) n n, .int .i64 0] 24)) m
    simpa using this
  · rw [heap_alloc_old _ _ (by simp; omega), heap_alloc_old _ _ (by simp; omega), heap_alloc_old _ _ (by simp), heap_alloc_new]
  · rw [heap_alloc_old _ _ (by simp)]
    have := heap_alloc_new ((w.alloc (.cells #[.slice none 0 0, .int .i64 0] 24)).alloc (.cells (madeCells #[.int .i64 0] n) 3)) (.cells #[.slice (some ⟨w.heap.size + 1, 0, none⟩) n n, .int .i64 0] 24)
    simpa using this
set_option maxHeartbeats 2000000 in
set_option maxRecDepth 100000 in
theorem eplan_R {ad oa : Option Addr} {cap oc n m : Nat} {ws O : Nat → Nat} (hn : n ≤ 400) (hm : 0 < m) (hm8 : m ≤ 8) (w : World) (HW : Hid (IntAt w ad cap n (fun i => (ws i : Int)))) (HO : Hid (IntAt w oa oc n (fun i => (O i : Int))))
    (hw : Hid (∀ i, i < n → ws i ≤ 1073741824)) (ho : Hid (∀ j, j < n → O j < n)) :
    Calls Try.prog 15 #[.slice ad n cap, .int .i64 (m : Int), .slice oa n oc] w (PlanOut w ws m n O) := by
  have hmk := run_make_row' (P := Try.prog) 22 3 (.int .i64 0) 8 Try.underlying22 info_int rfl .i64 .i64 n (by omega) (by omega)
  have hmk2 := run_make_row' (P := Try.prog) 22 3 (.int .i64 0) 8 Try.underlying22 info_int rfl .i64 .i64 m (by omega) (by omega)
  go_enter Try.func15, Try.ntmps15
  go_wp2_with fail
  go_loopw [23] (fun i wr => ∃ j : Nat, j ≤ n ∧ i = .int .i64 j ∧ ES w m n 0 (planP ws m O j).1 (planP ws m O j).2 wr) (fun i _ => n - (intOf i).toNat)
  case atStart =>
    clear hmk hmk2
    exact ⟨0, Nat.zero_le _, rfl, ES.start w m n⟩
  case round =>
    clear hmk hmk2
    obtain ⟨j, hj, rfl, hs⟩ := hrel
    have S := Lib.hid hs
    by_cases hlt : j < n
    · obtain ⟨wo, rfl⟩ : ∃ wo : World, wo = wr := ⟨_, rfl⟩
      have hload := load_le (m := m) hw.out ho.out j (by omega)
      obtain ⟨L, hL⟩ : ∃ L, (planP ws m O j).1 = L := ⟨_, rfl⟩
      obtain ⟨A, hA⟩ : ∃ A, (planP ws m O j).2 = A := ⟨_, rfl⟩
      rw [hL] at hload
      simp only [hL, hA] at hs S
      have hst : planP ws m O (j + 1) = putP ws m (L, A) (O j) := by rw [← hL, ← hA]; rfl
      have hk := ho.out j hlt
      have hwk := hw.out _ hk
      obtain ⟨qb, qo, hqe, hqb, hcw⟩ := HW.out.2 (by omega)
      obtain ⟨rb, ro, hre, hrb, hcr⟩ := HO.out.2 (by omega)
      subst hqe hre
      have ck : wo.cell? ⟨rb, ro + j, none⟩ = some (.int .i64 ((O j : Nat) : Int)) := (hs.1.1.cell (p := ⟨rb, ro + j, none⟩) hrb).trans (hcr j hlt)
      obtain ⟨hc, hmin, hfst⟩ := amin_spec L m hm
      obtain ⟨k, hke⟩ : ∃ k, O j = k := ⟨_, rfl⟩
      have cw := hcw _ hk
      rw [hke] at ck cw hk hst hwk
      obtain ⟨wk, hwe⟩ : ∃ wk, ws k = wk := ⟨_, rfl⟩
      simp only [hwe] at cw
      rw [hwe] at hwk
      obtain ⟨c, hce⟩ : ∃ c, amin L m = c := ⟨_, rfl⟩
      rw [hce] at hc
      obtain ⟨x, hxe⟩ : ∃ x, L c = x := ⟨_, rfl⟩
      have hxb : x ≤ 429496729600 := by
        have h1 := hload c
        rw [hxe] at h1
        have h2 : j * 1073741824 ≤ 400 * 1073741824 := Nat.mul_le_mul_right _ (by omega)
        omega
      obtain ⟨y, hy⟩ : ∃ y, x + wk = y := ⟨_, rfl⟩
      have HST : Hid (planP ws m O (j + 1) = (upd L c y, upd A k c)) := by
        refine Lib.hid ?_
        rw [hst, putP, hce]
        simp only [hxe, hwe, hy]
      have HXE := Lib.hid hxe
      have HCE := Lib.hid hce
      have HQB := Lib.hid hqb
      have HCW := Lib.hid cw
      have hsum : IntKind.i64.wrap ((x : Int) + (wk : Int)) = (y : Int) := by rw [IntWalk.i64_in _ (by omega)]; omega
      have HSM := Lib.hid hsum
      clear hs hL hA hst hload hmin hfst hxe hwe hke hce hcw hcr hsum hy cw
      go_wp2_with fail
      go_loopw [11, 28] (fun b i wr => ∃ x : Nat, x ≤ m ∧ i = .int .i64 x ∧ b = .int .i64 (amin L x : Nat) ∧ ES w m n 0 L A wr) (fun _ i _ => m - (intOf i).toNat)
      case atStart => exact ⟨0, Nat.zero_le _, rfl, rfl, S.out⟩
      case round =>
        obtain ⟨t, ht, rfl, rfl, hs⟩ := hrel
        have S2 := Lib.hid hs
        by_cases htm : t < m
        · have hct : amin L t < m := by
            by_cases h0 : 0 < t
            · have := (amin_spec L t h0).1; omega
            · rw [show t = 0 by omega]; exact hm
          have jt := hs.1.2.2.cell htm
          have jc := hs.1.2.2.cell hct
          have hst : amin L (t + 1) = if L t < L (amin L t) then t else amin L t := by
            by_cases h0 : 0 < t
            · obtain ⟨t1, rfl⟩ : ∃ t1, t = t1 + 1 := ⟨t - 1, by omega⟩
              rfl
            · rw [show t = 0 by omega]; simp [amin]
          obtain ⟨d, hd⟩ : ∃ d, amin L t = d := ⟨_, rfl⟩
          rw [hd] at jc hct hst
          rw [hd]
          obtain ⟨p, hp⟩ : ∃ p, L t = p := ⟨_, rfl⟩
          obtain ⟨q, hq⟩ : ∃ q, L d = q := ⟨_, rfl⟩
          rw [hp] at jt hst
          rw [hq] at jc hst
          have HST2 := Lib.hid hst
          clear hs hst hd hp hq
          by_cases hpq : p < q
          · have t1 : decide ((p : Int) < (q : Int)) = true := decide_eq_true (by omega)
            have HE : Hid (amin L (t + 1) = t) := Lib.hid (by rw [HST2.out, if_pos hpq])
            go_wp2_with fail
            go_quiet (fail)
            go_wp2_with fail
            go_roundw
            case rel => exact ⟨t + 1, by omega, by go_num, by rw [HE.out], S2.out.drewN _⟩
            case measure => simp [intOf]; omega
          · have t1 : decide ((p : Int) < (q : Int)) = false := decide_eq_false (by omega)
            have HE : Hid (amin L (t + 1) = d) := Lib.hid (by rw [HST2.out, if_neg hpq])
            go_wp2_with fail
            go_quiet (fail)
            go_wp2_with fail
            go_roundw
            case rel => exact ⟨t + 1, by omega, by go_num, by rw [HE.out], S2.out.drewN _⟩
            case measure => simp [intOf]; omega
        · obtain rfl : t = m := by omega
          rw [HCE.out]
          have jc := hs.1.2.2.cell hc
          have jf := hs.1.2.2.frozen c
          have ka := hs.1.2.1.cell hk
          have kf := hs.1.2.1.frozen k
          rw [HXE.out] at jc
          have cw : wr.cell? ⟨qb, qo + k, none⟩ = some (.int .i64 (wk : Int)) := (hs.1.1.cell (p := ⟨qb, qo + k, none⟩) HQB.out).trans HCW.out
          obtain ⟨⟨pc, _, _⟩, _⟩ := hs.cells
          have hsum := HSM.out
          have S4 := Lib.hid (((S2.out.putL hc y).drew).putA hk c)
          clear hs htm ht
          go_wp2_with fail
          go_still_tail 10, (by kernel_rfl)
          change wpList _ _ _ _ _ wr.drew
          go_wp2_with fail
          clear hsum
          go_roundw
          case rel => exact ⟨j + 1, by omega, by go_num, by rw [HST.out]; exact S4.out⟩
          case measure => simp [intOf]; omega
    · obtain rfl : j = n := by omega
      obtain ⟨M, hM⟩ : ∃ M, mostP ws m O j = M := ⟨_, rfl⟩
      have HM : Hid (maxF (planP ws m O j).1 m = M) := Lib.hid hM
      clear hM hlt hj hs
      go_wp2_with fail
      go_loopw [60] (fun i wr => ∃ k : Nat, k ≤ m ∧ i = .int .i64 k ∧ ES w m j (maxF (planP ws m O j).1 k) (planP ws m O j).1 (planP ws m O j).2 wr) (fun i _ => m - (intOf i).toNat)
      case atStart => exact ⟨0, Nat.zero_le _, rfl, S.out⟩
      case round =>
        obtain ⟨k, hk, rfl, hs⟩ := hrel
        have S2 := Lib.hid hs
        by_cases hkm : k < m
        · have jk := hs.1.2.2.cell hkm
          obtain ⟨⟨_, p1, p2⟩, _⟩ := hs.cells
          have hst : maxF (planP ws m O j).1 (k + 1) = max (maxF (planP ws m O j).1 k) ((planP ws m O j).1 k) := rfl
          obtain ⟨a, ha⟩ : ∃ a, maxF (planP ws m O j).1 k = a := ⟨_, rfl⟩
          obtain ⟨b, hb⟩ : ∃ b, (planP ws m O j).1 k = b := ⟨_, rfl⟩
          rw [ha] at p1 hst S2
          rw [hb] at jk hst
          have HST := Lib.hid hst
          clear hs hst ha hb
          go_wp2_with fail
          have e1 : (if a < b then (b : Int) else (a : Int)) = ((max a b : Nat) : Int) := by
            by_cases h : a < b
            · rw [if_pos h]; omega
            · rw [if_neg h]; omega
          rw [e1]
          have S3 := Lib.hid (S2.out.putM (max a b))
          go_roundw
          case rel => exact ⟨k + 1, by omega, by go_num, by rw [HST.out]; exact S3.out⟩
          case measure => simp [intOf]; omega
        · obtain rfl : k = m := by omega
          rw [HM.out] at S2
          obtain ⟨⟨p0, p1, p2⟩, r0, r1, r2, r3⟩ := S2.out.cells
          clear hs hkm hk
          go_wp2_with fail
          refine bodyPost_ret (v := .agg #[.slice (some ⟨w.heap.size + 1, 0, none⟩) j j, .int .i64 (M : Int)]) (by simp [results, Try.results15, go_sem, r0, r1]) rfl ?_
          have HM2 : mostP ws k O j = M := HM.out
          refine ⟨w.heap.size + 1, by rw [HM2], ?_, by omega, ?_⟩
          · exact (S2.out.1.2.1.far (show ¬ w.heap.size + 1 = w.heap.size by omega)).far (show ¬ w.heap.size + 1 = w.heap.size by omega)
          · exact (S2.out.1.1.setCell (p := ⟨w.heap.size, 0, none⟩) (Nat.le_refl _) _).setCell (p := ⟨w.heap.size, 1, none⟩) (Nat.le_refl _) _
set_option maxHeartbeats 1000000 in
set_option maxRecDepth 100000 in
theorem same_R {ad ad2 : Option Addr} {cap cap2 n : Nat} {M : Int} {f g : Nat → Int} (w : World) (HA : Hid (IntAt w ad cap n f)) (HB : Hid (IntAt w ad2 cap2 n g)) (hn : n ≤ 1000) (hf : Hid (∀ i, i < n → f i = g i)) :
    Calls Try.prog 14 #[.agg #[.slice ad n cap, .int .i64 M], .agg #[.slice ad2 n cap2, .int .i64 M]] w (Yes w) := by
  have HA2 := Lib.hid ((HA.out.step (below_al w (.cells #[.slice ad n cap, .int .i64 M] 24))).step (below_al _ (.cells #[.slice ad2 n cap2, .int .i64 M] 24)))
  have HB2 := Lib.hid ((HB.out.step (below_al w (.cells #[.slice ad n cap, .int .i64 M] 24))).step (below_al _ (.cells #[.slice ad2 n cap2, .int .i64 M] 24)))
  have BB := Lib.hid (grow (below_al w (.cells #[.slice ad n cap, .int .i64 M] 24)) (below_al _ (.cells #[.slice ad2 n cap2, .int .i64 M] 24)))
  go_enter Try.func14, Try.ntmps14
  go_wp2_with (first
    | (go_at_call 27; (with_reducible refine (equal_R _ HA2 HB2 hn hf).mono ?_); rintro e w1 ⟨rfl, q, rfl⟩)
    | fail)
  go_ret
  exact ⟨rfl, below_drewN BB.out _⟩
end Go.Proofs.Ytocemkbplgkalaa
