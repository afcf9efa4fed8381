/- Package nest: frames and cores in memory; the walks of nest.Right and corebellref.GRight. -/
import Derived.Test.YteeejkcehajokaaProg
import Derived.Test.YteeejkcehajokaaNestP
import Derived.Test.YteeejkcehajokaaMem
import Derived.WalkKit
import Derived.Below
import Derived.Lib.Hide
import Derived.WalkSmall
import Derived.BigQuiet
import Derived.Deep.QuietTactic
namespace Go.Proofs.Yteeejkcehajokaa
open Go.RowKit

def shI : Shape Int := ⟨1, fun x => [.int .i64 x], fun _ => rfl, fun _ u hu => by simp at hu; subst hu; rfl, by decide⟩
def shF : Shape FrT := ⟨2, fun f => [.bool f.on, .bool f.irq], fun _ => rfl, fun _ u hu => by simp at hu; rcases hu with rfl | rfl <;> rfl, by decide⟩
theorem info_frame : (Try.prog.info? 43).map (fun i => (i.zero, i.size, i.bytes)) = some (some (.agg #[.bool false, .bool false]), 2, 2) := by kernel_rfl
theorem info_errno : (Try.prog.info? 26).map (fun i => (i.zero, i.size, i.bytes)) = some (some (.int .i64 0), 1, 8) := by kernel_rfl
theorem at_fr {w : World} {ad : Option Addr} {cap k : Nat} {l : List FrT} {f : FrT} (h : shF.At w ad cap l) (hk : l[k]? = some f) : ∃ b off, ad = some ⟨b, off, none⟩ ∧ b < w.heap.size ∧ w.cell? ⟨b, off + k * 2, none⟩ = some (.bool f.on) ∧ w.cell? ⟨b, off + k * 2 + 1, none⟩ = some (.bool f.irq) := by
  have hkl := (List.getElem?_eq_some_iff.1 hk).1
  obtain ⟨b, off, e, hb, hl⟩ := h.2 (by omega)
  have h0 := shF.flat_at l k 0 f hk (by decide)
  have h1 := shF.flat_at l k 1 f hk (by decide)
  have hs : shF.size = 2 := rfl
  rw [hs] at h0 h1 hl
  refine ⟨b, off, e, hb, ?_, ?_⟩
  · rw [show off + k * 2 = off + (k * 2 + 0) from rfl, hl _ (by omega), h0]; rfl
  · rw [Nat.add_assoc, hl _ (by omega), h1]; rfl
theorem at_int {w : World} {ad : Option Addr} {cap k : Nat} {l : List Int} {x : Int} (h : shI.At w ad cap l) (hk : l[k]? = some x) : ∃ b off, ad = some ⟨b, off, none⟩ ∧ b < w.heap.size ∧ w.cell? ⟨b, off + k, none⟩ = some (.int .i64 x) := by
  have hkl := (List.getElem?_eq_some_iff.1 hk).1
  obtain ⟨b, off, e, hb, hl⟩ := h.2 (by omega)
  have h0 := shI.flat_at l k 0 x hk (by decide)
  have hs : shI.size = 1 := rfl
  rw [hs, Nat.mul_one, Nat.add_zero] at h0
  rw [hs] at hl
  exact ⟨b, off, e, hb, by rw [hl _ (by omega), h0]; rfl⟩
theorem frs_next {l : List FrT} {k : Nat} {f : FrT} (hf : l[k]? = some f) (h : ∀ j g, j < k → l[j]? = some g → FrOk j g) (hk : FrOk k f) : ∀ j g, j < k + 1 → l[j]? = some g → FrOk j g := fun j g hj hg => by
  by_cases e : j = k
  · subst e; rw [hf] at hg; cases hg; exact hk
  · exact h j g (by omega) hg
theorem rt_of {on : Bool} {l : List FrT} {n : Nat} (hm : l.length = n) (h4 : n ≤ 400) (ho : on = true → n = 0) (h : ∀ j g, j < n → l[j]? = some g → FrOk j g) : RtN ⟨on, l⟩ :=
  ⟨by rw [hm]; exact h4, fun e => List.eq_nil_of_length_eq_zero (by rw [hm]; exact ho e), fun k f e => h k f (by rw [← hm]; exact (List.getElem?_eq_some_iff.1 e).1) e⟩
set_option maxHeartbeats 1000000 in
set_option maxRecDepth 100000 in
theorem right_N {ad : Option Addr} {cap n : Nat} {l : List FrT} (on : Bool) (w : World) (HA : Hid (shF.At w ad cap l)) (hm : Hid (l.length = n)) (hn : n ≤ 9223372036854775807) :
    Calls Try.prog 11 #[.agg #[.bool on, .slice ad n cap]] w fun e w' => RetB (RtN ⟨on, l⟩) e ∧ Below w.heap.size w w' := by
  have B0 := Lib.hid (below_alloc w (.cells #[.bool on, .slice ad n cap] 24))
  by_cases h4 : 400 < n
  · go_enter Try.func11, Try.ntmps11
    go_wp2_with fail
    go_ret
    exact ⟨RetB.no fun h => by have := h.len; simp only [hm.out] at this; omega, B0.out⟩
  by_cases h0 : 0 < n
  · cases on with
    | true =>
      go_enter Try.func11, Try.ntmps11
      go_wp2_with fail
      go_ret
      exact ⟨RetB.no fun h => by have := h.off rfl; simp only at this; rw [← hm.out, this] at h0; simp at h0, B0.out⟩
    | false =>
      go_enter Try.func11, Try.ntmps11
      go_wp2_with fail
      go_loopw [22] (fun i wr => ∃ k : Nat, k ≤ n ∧ i = .int .i64 k ∧ Hid (∀ j g, j < k → l[j]? = some g → FrOk j g) ∧ Hid (Below w.heap.size w wr)) (fun i _ => n - (intOf i).toNat)
      case atStart => exact ⟨0, Nat.zero_le _, rfl, Lib.hid fun j g hj => by omega, B0⟩
      case round =>
        obtain ⟨k, hk, rfl, HI, HB⟩ := hrel
        by_cases hlt : k < n
        · obtain ⟨f, hf⟩ : ∃ f, l[k]? = some f := ⟨l[k]'(by rw [hm.out]; exact hlt), List.getElem?_eq_getElem _⟩
          obtain ⟨b, off, rfl, hb, c0, c1⟩ := at_fr (HA.out.step HB.out) hf
          have hbr := hb
          have HF := Lib.hid hf
          obtain ⟨x, y⟩ := f
          simp only at c0 c1
          have BN := Lib.hid (pstep HB.out (below_alloc wr (.cells #[.bool x, .bool y] 43)))
          clear hf
          by_cases hk0 : 0 < k
          · have hk1 : (0 : Int) < (k : Int) := by omega
            cases x with
            | true =>
              cases y
              all_goals go_wp2_with fail
              all_goals go_ret
              all_goals exact ⟨RetB.no fun h => by have := h.fr k _ HF.out; simp [FrOk, hk0] at this, BN.out⟩
            | false =>
              cases y with
              | true =>
                go_wp2_with fail
                go_ret
                exact ⟨RetB.no fun h => by have := h.fr k _ HF.out; simp [FrOk, hk0] at this, BN.out⟩
              | false =>
                go_wp2_with fail
                go_roundw
                case rel => exact ⟨k + 1, by omega, by go_num, Lib.hid (frs_next HF.out HI.out (by simp [FrOk])), BN⟩
                case measure => simp [intOf]; omega
          · have hk1 : ¬ (0 : Int) < (k : Int) := by omega
            cases x with
            | true =>
              cases y with
              | true =>
                go_wp2_with fail
                go_roundw
                case rel => exact ⟨k + 1, by omega, by go_num, Lib.hid (frs_next HF.out HI.out (by simp [FrOk]; omega)), BN⟩
                case measure => simp [intOf]; omega
              | false =>
                go_wp2_with fail
                go_roundw
                case rel => exact ⟨k + 1, by omega, by go_num, Lib.hid (frs_next HF.out HI.out (by simp [FrOk]; omega)), BN⟩
                case measure => simp [intOf]; omega
            | false =>
              cases y with
              | true =>
                go_wp2_with fail
                go_ret
                exact ⟨RetB.no fun h => by have := h.fr k _ HF.out; simp [FrOk] at this, BN.out⟩
              | false =>
                go_wp2_with fail
                go_roundw
                case rel => exact ⟨k + 1, by omega, by go_num, Lib.hid (frs_next HF.out HI.out (by simp [FrOk])), BN⟩
                case measure => simp [intOf]; omega
        · obtain rfl : k = n := by omega
          go_wp2_with fail
          go_ret
          exact ⟨RetB.yes (rt_of hm.out (by omega) (fun e => by cases e) HI.out), HB.out⟩
  · obtain rfl : n = 0 := by omega
    cases on
    all_goals go_enter Try.func11, Try.ntmps11
    all_goals go_wp2_with fail
    all_goals (go_loopw [22] (fun i wr => i = .int .i64 0 ∧ Hid (Below w.heap.size w wr)) (fun i _ => 0))
    all_goals first
      | exact ⟨rfl, B0⟩
      | skip
    all_goals obtain ⟨rfl, HB⟩ := hrel
    all_goals go_wp2_with fail
    all_goals go_ret
    all_goals exact ⟨RetB.yes (rt_of hm.out (by omega) (fun _ => rfl) (fun j g hj => by omega)), HB.out⟩
set_option maxHeartbeats 1000000 in
set_option maxRecDepth 100000 in
theorem gright_N {ad : Option Addr} {cap n : Nat} {l : List FrT} (on : Bool) (w : World) (HA : Hid (shF.At w ad cap l)) (hm : Hid (l.length = n)) (hn : n ≤ 9223372036854775807) :
    Calls Try.prog 12 #[.agg #[.bool on, .slice ad n cap]] w fun e w' => RetB (RtN ⟨on, l⟩) e ∧ Below w.heap.size w w' := by
  have B0 := Lib.hid (below_alloc w (.cells #[.bool on, .slice ad n cap] 24))
  by_cases h4 : 400 < n
  · go_enter Try.func12, Try.ntmps12
    go_wp2_with fail
    go_ret
    exact ⟨RetB.no fun h => by have := h.len; simp only [hm.out] at this; omega, B0.out⟩
  by_cases h0 : 0 < n
  · cases on with
    | true =>
      go_enter Try.func12, Try.ntmps12
      go_wp2_with fail
      go_ret
      exact ⟨RetB.no fun h => by have := h.off rfl; simp only at this; rw [← hm.out, this] at h0; simp at h0, B0.out⟩
    | false =>
      go_enter Try.func12, Try.ntmps12
      go_wp2_with fail
      go_loopw [22] (fun i wr => ∃ k : Nat, k ≤ n ∧ i = .int .i64 k ∧ Hid (∀ j g, j < k → l[j]? = some g → FrOk j g) ∧ Hid (Below w.heap.size w wr)) (fun i _ => n - (intOf i).toNat)
      case atStart => exact ⟨0, Nat.zero_le _, rfl, Lib.hid fun j g hj => by omega, B0⟩
      case round =>
        obtain ⟨k, hk, rfl, HI, HB⟩ := hrel
        by_cases hlt : k < n
        · obtain ⟨f, hf⟩ : ∃ f, l[k]? = some f := ⟨l[k]'(by rw [hm.out]; exact hlt), List.getElem?_eq_getElem _⟩
          obtain ⟨b, off, rfl, hb, c0, c1⟩ := at_fr (HA.out.step HB.out) hf
          have hbr := hb
          have HF := Lib.hid hf
          obtain ⟨x, y⟩ := f
          simp only at c0 c1
          have BN := Lib.hid (pstep HB.out (below_alloc wr (.cells #[.bool x, .bool y] 43)))
          clear hf
          by_cases hk0 : 0 < k
          · have hk1 : (0 : Int) < (k : Int) := by omega
            cases x with
            | true =>
              cases y
              all_goals go_wp2_with fail
              all_goals go_ret
              all_goals exact ⟨RetB.no fun h => by have := h.fr k _ HF.out; simp [FrOk, hk0] at this, BN.out⟩
            | false =>
              cases y with
              | true =>
                go_wp2_with fail
                go_ret
                exact ⟨RetB.no fun h => by have := h.fr k _ HF.out; simp [FrOk, hk0] at this, BN.out⟩
              | false =>
                go_wp2_with fail
                go_roundw
                case rel => exact ⟨k + 1, by omega, by go_num, Lib.hid (frs_next HF.out HI.out (by simp [FrOk])), BN⟩
                case measure => simp [intOf]; omega
          · have hk1 : ¬ (0 : Int) < (k : Int) := by omega
            cases x with
            | true =>
              cases y with
              | true =>
                go_wp2_with fail
                go_roundw
                case rel => exact ⟨k + 1, by omega, by go_num, Lib.hid (frs_next HF.out HI.out (by simp [FrOk]; omega)), BN⟩
                case measure => simp [intOf]; omega
              | false =>
                go_wp2_with fail
                go_roundw
                case rel => exact ⟨k + 1, by omega, by go_num, Lib.hid (frs_next HF.out HI.out (by simp [FrOk]; omega)), BN⟩
                case measure => simp [intOf]; omega
            | false =>
              cases y with
              | true =>
                go_wp2_with fail
                go_ret
                exact ⟨RetB.no fun h => by have := h.fr k _ HF.out; simp [FrOk] at this, BN.out⟩
              | false =>
                go_wp2_with fail
                go_roundw
                case rel => exact ⟨k + 1, by omega, by go_num, Lib.hid (frs_next HF.out HI.out (by simp [FrOk])), BN⟩
                case measure => simp [intOf]; omega
        · obtain rfl : k = n := by omega
          go_wp2_with fail
          go_ret
          exact ⟨RetB.yes (rt_of hm.out (by omega) (fun e => by cases e) HI.out), HB.out⟩
  · obtain rfl : n = 0 := by omega
    cases on
    all_goals go_enter Try.func12, Try.ntmps12
    all_goals go_wp2_with fail
    all_goals (go_loopw [22] (fun i wr => i = .int .i64 0 ∧ Hid (Below w.heap.size w wr)) (fun i _ => 0))
    all_goals first
      | exact ⟨rfl, B0⟩
      | skip
    all_goals obtain ⟨rfl, HB⟩ := hrel
    all_goals go_wp2_with fail
    all_goals go_ret
    all_goals exact ⟨RetB.yes (rt_of hm.out (by omega) (fun _ => rfl) (fun j g hj => by omega)), HB.out⟩

end Go.Proofs.Yteeejkcehajokaa
