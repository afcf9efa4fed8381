/- Package chain: handlers and tallies in memory; the walks of within, Right and corebellref.IRight. -/
import Derived.Test.YtdpfffifhkndlaaProg
import Derived.Test.YtdpfffifhkndlaaChainP
import Derived.Test.YtdpfffifhkndlaaNum
import Derived.StillTailTactics
namespace Go.Proofs.Ytdpfffifhkndlaa
open Go.RowKit

def shH : Shape HdT := ⟨2, fun h => [.int .i64 h.says, .int .i64 h.left], fun _ => rfl, fun _ u hu => by simp at hu; rcases hu with rfl | rfl <;> rfl, by decide⟩
theorem info_handler : (Try.prog.info? 32).map (fun i => (i.zero, i.size, i.bytes)) = some (some (.agg #[.int .i64 0, .int .i64 0]), 2, 16) := by kernel_rfl
theorem size_tally : (Try.prog.info? 24).map (·.size) = some 3 := by kernel_rfl
theorem at_hd {w : World} {ad : Option Addr} {cap k : Nat} {l : List HdT} {f : HdT} (h : shH.At w ad cap l) (hk : l[k]? = some f) : ∃ b off, ad = some ⟨b, off, none⟩ ∧ b < w.heap.size ∧ w.cell? ⟨b, off + k * 2, none⟩ = some (.int .i64 f.says) ∧ w.cell? ⟨b, off + k * 2 + 1, none⟩ = some (.int .i64 f.left) := by
  have hkl := (List.getElem?_eq_some_iff.1 hk).1
  obtain ⟨b, off, e, hb, hl⟩ := h.2 (by omega)
  have h0 := shH.flat_at l k 0 f hk (by decide)
  have h1 := shH.flat_at l k 1 f hk (by decide)
  have hs : shH.size = 2 := rfl
  rw [hs] at h0 h1 hl
  refine ⟨b, off, e, hb, ?_, ?_⟩
  · rw [show off + k * 2 = off + (k * 2 + 0) from rfl, hl _ (by omega), h0]; rfl
  · rw [Nat.add_assoc, hl _ (by omega), h1]; rfl
/-- One handler is right. -/
def HdOk (h : HdT) : Prop := (h.says = 1 ∨ h.says = 2) ∧ 0 ≤ h.left ∧ h.left ≤ 1099511627776
theorem hds_next {l : List HdT} {k : Nat} {f : HdT} (hf : l[k]? = some f) (h : ∀ j g, j < k → l[j]? = some g → HdOk g) (hk : HdOk f) : ∀ j g, j < k + 1 → l[j]? = some g → HdOk g := fun j g hj hg => by
  by_cases e : j = k
  · subst e; rw [hf] at hg; cases hg; exact hk
  · exact h j g (by omega) hg
theorem rt_all {l : List HdT} {n : Nat} (hm : l.length = n) (h4 : n ≤ 16) (h : ∀ j g, j < n → l[j]? = some g → HdOk g) : RtI l :=
  ⟨by rw [hm]; exact h4, fun g hg => by
    obtain ⟨j, hj⟩ := List.mem_iff_getElem?.1 hg
    exact h j g (by rw [← hm]; exact (List.getElem?_eq_some_iff.1 hj).1) hj⟩
theorem rt_at {l : List HdT} {k : Nat} {f : HdT} (h : RtI l) (hf : l[k]? = some f) : HdOk f := h.2 f (List.mem_of_getElem? hf)
theorem ok_next {l : List HdT} {k n : Nat} {f : HdT} {b b' : Bool} (hf : l[k]? = some f) (h : b = true ↔ n < 17 ∧ ∀ j g, j < k → l[j]? = some g → HdOk g) (hb : b' = true ↔ b = true ∧ HdOk f) : b' = true ↔ n < 17 ∧ ∀ j g, j < k + 1 → l[j]? = some g → HdOk g := by
  rw [hb, h]
  constructor
  · rintro ⟨⟨h1, h2⟩, h3⟩
    exact ⟨h1, hds_next hf h2 h3⟩
  · rintro ⟨h1, h2⟩
    exact ⟨⟨h1, fun j g hj => h2 j g (by omega)⟩, h2 k f (by omega) hf⟩
set_option maxHeartbeats 1000000 in
set_option maxRecDepth 100000 in
theorem within_C (n last : Int) (w : World) (b : Bool) (hb : Hid (decide (0 ≤ n ∧ n ≤ last) = b)) :
    Calls Try.prog 24 #[.int .i64 n, .int .i64 last] w fun e w' => e = .returned (.bool b) ∧ w = w' := by
  by_cases h0 : 0 ≤ n
  · have g0 : decide (0 ≤ n) = true := decide_eq_true h0
    have HE : Hid (decide (n ≤ last) = b) := Lib.hid (by rw [← hb.out]; simp [h0])
    go_enter Try.func24, Try.ntmps24
    go_wp2_with fail
    go_ret
    exact ⟨by rw [← HE.out]; simp, rfl⟩
  · have g0 : decide (0 ≤ n) = false := decide_eq_false h0
    have HE : Hid (false = b) := Lib.hid (by rw [← hb.out]; simp [h0])
    go_enter Try.func24, Try.ntmps24
    go_wp2_with fail
    go_ret
    exact ⟨by rw [← HE.out]; simp, rfl⟩
set_option maxHeartbeats 2000000 in
set_option maxRecDepth 100000 in
theorem right_N {ad : Option Addr} {cap n : Nat} {l : List HdT} (w : World) (HA : Hid (shH.At w ad cap l)) (hm : Hid (l.length = n)) (hn : n ≤ 9223372036854775807) :
    Calls Try.prog 10 #[.slice ad n cap] w fun e w' => RetB (RtI l) e ∧ Below w.heap.size w w' := by
  by_cases h4 : 16 < n
  · go_enter Try.func10, Try.ntmps10
    go_wp2_with fail
    go_ret
    exact ⟨RetB.no fun h => by have := h.1; rw [hm.out] at this; omega, Below.refl _ _⟩
  · go_enter Try.func10, Try.ntmps10
    go_wp2_with fail
    go_loopw [10] (fun i wr => ∃ k : Nat, k ≤ n ∧ i = .int .i64 k ∧ Hid (∀ j g, j < k → l[j]? = some g → HdOk g) ∧ Hid (Below w.heap.size w wr)) (fun i _ => n - (intOf i).toNat)
    case atStart => exact ⟨0, Nat.zero_le _, rfl, Lib.hid fun j g hj => by omega, Lib.hid (Below.refl _ _)⟩
    case round =>
      obtain ⟨k, hk, rfl, HI, HB⟩ := hrel
      by_cases hlt : k < n
      · obtain ⟨f, hf⟩ : ∃ f, l[k]? = some f := ⟨l[k]'(by rw [hm.out]; exact hlt), List.getElem?_eq_getElem _⟩
        obtain ⟨b, off, rfl, hb, c0, c1⟩ := at_hd (HA.out.step HB.out) hf
        have HF := Lib.hid hf
        obtain ⟨x, y⟩ := f
        simp only at c0 c1
        have BN := Lib.hid (pstep HB.out (below_alloc wr (.cells #[.int .i64 x, .int .i64 y] 32)))
        clear hf
        have hx : x = 1 ∨ x = 2 ∨ ((x != 1) = true ∧ (x != 2) = true) := by
          simp only [bne_iff_ne, ne_eq]; omega
        rcases hx with rfl | rfl | ⟨g1, g2⟩
        · cases HW : decide (0 ≤ y ∧ y ≤ 1099511627776) with
          | false =>
            have HW' := Lib.hid HW
            go_wp2_with (first
              | (go_at_call 24; (with_reducible refine (within_C y 1099511627776 _ false HW').mono ?_); rintro e w1 ⟨rfl, rfl⟩)
              | fail)
            go_ret
            exact ⟨RetB.no fun h => by have := (rt_at h HF.out).2; simp only [decide_eq_false_iff_not] at HW; exact HW this, BN.out⟩
          | true =>
            have HW' := Lib.hid HW
            go_wp2_with (first
              | (go_at_call 24; (with_reducible refine (within_C y 1099511627776 _ true HW').mono ?_); rintro e w1 ⟨rfl, rfl⟩)
              | fail)
            go_roundw
            case rel => exact ⟨k + 1, by omega, by go_num, Lib.hid (hds_next HF.out HI.out ⟨Or.inl rfl, of_decide_eq_true HW⟩), BN⟩
            case measure => simp [intOf]; omega
        · cases HW : decide (0 ≤ y ∧ y ≤ 1099511627776) with
          | false =>
            have HW' := Lib.hid HW
            go_wp2_with (first
              | (go_at_call 24; (with_reducible refine (within_C y 1099511627776 _ false HW').mono ?_); rintro e w1 ⟨rfl, rfl⟩)
              | fail)
            go_ret
            exact ⟨RetB.no fun h => by have := (rt_at h HF.out).2; simp only [decide_eq_false_iff_not] at HW; exact HW this, BN.out⟩
          | true =>
            have HW' := Lib.hid HW
            go_wp2_with (first
              | (go_at_call 24; (with_reducible refine (within_C y 1099511627776 _ true HW').mono ?_); rintro e w1 ⟨rfl, rfl⟩)
              | fail)
            go_roundw
            case rel => exact ⟨k + 1, by omega, by go_num, Lib.hid (hds_next HF.out HI.out ⟨Or.inr rfl, of_decide_eq_true HW⟩), BN⟩
            case measure => simp [intOf]; omega
        · go_wp2_with fail
          go_ret
          exact ⟨RetB.no fun h => by have := (rt_at h HF.out).1; simp only [bne_iff_ne, ne_eq] at g1 g2; simp only at this; omega, BN.out⟩
      · obtain rfl : k = n := by omega
        go_wp2_with fail
        go_ret
        exact ⟨RetB.yes (rt_all hm.out (by omega) HI.out), HB.out⟩
set_option maxHeartbeats 2000000 in
set_option maxRecDepth 100000 in
theorem iright_N {ad : Option Addr} {cap n : Nat} {l : List HdT} (w : World) (HA : Hid (shH.At w ad cap l)) (hm : Hid (l.length = n)) (hn : n ≤ 9223372036854775807) :
    Calls Try.prog 11 #[.slice ad n cap] w fun e w' => RetB (RtI l) e ∧ Below w.heap.size w w' := by
  go_enter Try.func11, Try.ntmps11
  go_wp2_with fail
  go_loopw [3, 11] (fun o i wr => ∃ (k : Nat) (b : Bool), k ≤ n ∧ i = .int .i64 k ∧ o = .bool b ∧ Hid (b = true ↔ n < 17 ∧ ∀ j g, j < k → l[j]? = some g → HdOk g) ∧ Hid (Below w.heap.size w wr)) (fun _ i _ => n - (intOf i).toNat)
  case atStart => exact ⟨0, _, Nat.zero_le _, rfl, rfl, Lib.hid ⟨fun h => ⟨by have := of_decide_eq_true h; omega, fun j g hj => by omega⟩, fun h => decide_eq_true (by have := h.1; omega)⟩, Lib.hid (Below.refl _ _)⟩
  case round =>
    obtain ⟨k, b, hk, rfl, rfl, HI, HB⟩ := hrel
    by_cases hlt : k < n
    · obtain ⟨f, hf⟩ : ∃ f, l[k]? = some f := ⟨l[k]'(by rw [hm.out]; exact hlt), List.getElem?_eq_getElem _⟩
      obtain ⟨bk, off, rfl, hb, c0, c1⟩ := at_hd (HA.out.step HB.out) hf
      have HF := Lib.hid hf
      obtain ⟨x, y⟩ := f
      simp only at c0 c1
      have BN := Lib.hid (pstep HB.out (below_alloc wr (.cells #[.int .i64 x, .int .i64 y] 32)))
      clear hf
      cases b with
      | false =>
        go_wp2_with fail
        go_roundw
        case rel => exact ⟨k + 1, _, by omega, by go_num, rfl, Lib.hid (ok_next HF.out HI.out (by simp)), BN⟩
        case measure => simp [intOf]; omega
      | true =>
        have hx : x = 1 ∨ x = 2 ∨ ((x == 1) = false ∧ (x == 2) = false) := by
          simp only [beq_eq_false_iff_ne, ne_eq]; omega
        have hy : decide (0 ≤ y) = false ∨ (decide (0 ≤ y) = true ∧ decide (y ≤ 1099511627776) = false) ∨ (decide (0 ≤ y) = true ∧ decide (y ≤ 1099511627776) = true) := by
          simp only [decide_eq_true_eq, decide_eq_false_iff_not]; omega
        rcases hx with rfl | rfl | ⟨g1, g2⟩
        · rcases hy with g3 | ⟨g3, g4⟩ | ⟨g3, g4⟩
          all_goals go_wp2_with fail
          all_goals go_roundw
          all_goals first
            | (refine ⟨k + 1, _, by omega, by go_num, rfl, Lib.hid (ok_next HF.out HI.out ?_), BN⟩; simp only [decide_eq_true_eq, decide_eq_false_iff_not] at *; simp [HdOk]; try omega)
            | (simp [intOf]; omega)
        · rcases hy with g3 | ⟨g3, g4⟩ | ⟨g3, g4⟩
          all_goals go_wp2_with fail
          all_goals go_roundw
          all_goals first
            | (refine ⟨k + 1, _, by omega, by go_num, rfl, Lib.hid (ok_next HF.out HI.out ?_), BN⟩; simp only [decide_eq_true_eq, decide_eq_false_iff_not] at *; simp [HdOk]; try omega)
            | (simp [intOf]; omega)
        · clear hy
          go_wp2_with fail
          go_roundw
          case rel =>
            refine ⟨k + 1, _, by omega, by go_num, rfl, Lib.hid (ok_next HF.out HI.out ?_), BN⟩
            simp only [beq_eq_false_iff_ne, ne_eq] at g1 g2
            simp [HdOk]; omega
          case measure => simp [intOf]; omega
    · obtain rfl : k = n := by omega
      go_wp2_with fail
      go_ret
      refine ⟨⟨b, rfl, ?_⟩, HB.out⟩
      rw [HI.out]
      exact ⟨fun h => rt_all hm.out (by omega) h.2, fun h => ⟨by have := h.1; rw [hm.out] at this; omega, fun j g _ hg => rt_at h hg⟩⟩
end Go.Proofs.Ytdpfffifhkndlaa
