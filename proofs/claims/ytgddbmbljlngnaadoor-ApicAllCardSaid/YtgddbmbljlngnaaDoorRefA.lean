/- The walk of corebellref.ARow: the set as a row of 256 bools. -/
import Derived.Test.YtgddbmbljlngnaaDoorBitsA
import Derived.Test.YtgddbmbljlngnaaDoorPlain
import Derived.Deep.WholeRow
namespace Go.Proofs.YtgddbmbljlngnaaDoor
open Go.RowKit

/-- A row of n bools. -/
def boolsOf (p : Nat → Bool) (n : Nat) : Array Value := ((List.range n).map (fun i => Value.bool (p i))).toArray
theorem size_boolsOf (p : Nat → Bool) (n : Nat) : (boolsOf p n).size = n := by simp [boolsOf]
theorem boolsOf_at (p : Nat → Bool) (n i : Nat) (h : i < n) : (boolsOf p n)[i]? = some (.bool (p i)) := by simp [boolsOf, h]
theorem info_row : (Tryd.prog.info? 56).map (fun i => (i.zero, i.size)) = some (some (.agg (boolsOf (fun _ => false) 256)), 256) := by kernel_rfl

/-- The first m cells are told. -/
def Filled (p : Nat → Bool) (C : Array Value) (m : Nat) : Prop := C.size = 256 ∧ ∀ i, i < m → C[i]? = some (.bool (p i))
theorem filled_zero (p : Nat → Bool) (C : Array Value) (h : C.size = 256) : Filled p C 0 := ⟨h, fun i hi => by omega⟩
theorem filled_step {p : Nat → Bool} {C : Array Value} {m : Nat} {t : Bool} (h : Filled p C m) (hm : m < 256) (ht : p m = t) : Filled p (C.setIfInBounds m (.bool t)) (m + 1) := by
  refine ⟨by simp [h.1], fun i hi => ?_⟩
  rw [Array.getElem?_setIfInBounds]
  by_cases e : m = i
  · subst e
    simp [h.1, hm, ht]
  · rw [if_neg e]
    exact h.2 i (by omega)
theorem filled_all {p : Nat → Bool} {C : Array Value} (h : Filled p C 256) : C = boolsOf p 256 := by
  apply Array.ext_getElem?
  intro i
  by_cases hi : i < 256
  · rw [h.2 i hi, boolsOf_at p 256 i hi]
  · rw [Array.getElem?_eq_none (by rw [h.1]; omega), Array.getElem?_eq_none (by rw [size_boolsOf]; omega)]
theorem bit_at {a b c d : Nat} (k n y : Nat) (hn : n < 64) (hy : word a b c d k / 2 ^ n = y) : mem a b c d (64 * k + n) = (((y : Int) % 2) == 1) := by
  unfold mem
  rw [show (64 * k + n) / 64 = k by omega, show (64 * k + n) % 64 = n by omega, Nat.testBit_eq_decide_div_mod_eq, hy]
  rw [Bool.eq_iff_iff]
  simp
  omega
theorem half_at (x n y : Nat) (hy : x / 2 ^ n = y) : x / 2 ^ (n + 1) = y / 2 := by
  rw [Nat.pow_succ, ← Nat.div_div_eq_div_mul, hy]

theorem index_word (a b c d k : Nat) (hk : k < 4) (w : World) : (Instr.index 24 (.agg #[.int .u64 a, .int .u64 b, .int .u64 c, .int .u64 d]) (.int .i64 (k : Int))).run Tryd.prog w = .ok (.int .u64 ((word a b c d k : Nat) : Int)) w := by
  have hk4 : k = 0 ∨ k = 1 ∨ k = 2 ∨ k = 3 := by omega
  have i0 : (Instr.index 24 (.agg #[.int .u64 a, .int .u64 b, .int .u64 c, .int .u64 d]) (.int .i64 0)).run Tryd.prog w = .ok (.int .u64 a) w := by kernel_rfl
  have i1 : (Instr.index 24 (.agg #[.int .u64 a, .int .u64 b, .int .u64 c, .int .u64 d]) (.int .i64 1)).run Tryd.prog w = .ok (.int .u64 b) w := by kernel_rfl
  have i2 : (Instr.index 24 (.agg #[.int .u64 a, .int .u64 b, .int .u64 c, .int .u64 d]) (.int .i64 2)).run Tryd.prog w = .ok (.int .u64 c) w := by kernel_rfl
  have i3 : (Instr.index 24 (.agg #[.int .u64 a, .int .u64 b, .int .u64 c, .int .u64 d]) (.int .i64 3)).run Tryd.prog w = .ok (.int .u64 d) w := by kernel_rfl
  rcases hk4 with rfl | rfl | rfl | rfl
  · exact i0
  · exact i1
  · exact i2
  · exact i3

theorem size_row : (Tryd.prog.info? 56).map (·.size) = some 256 := (zero_of_info info_row).2
theorem bools_one (p : Nat → Bool) (n : Nat) : ∀ v ∈ (boolsOf p n).toList, v.oneCell' = true := by
  intro v hv
  simp [boolsOf] at hv
  obtain ⟨i, _, rfl⟩ := hv
  rfl
/-- A whole row into the block that was made last but one. -/
theorem store_row2 {W : World} (Z C : Array Value) (o : Obj) (hs : Z.size = C.size) (h1 : ∀ v ∈ C.toList, v.oneCell' = true) :
    (storeCells ⟨W.heap.size, 0, none⟩ C.toList).run Tryd.prog ((W.alloc (.cells Z 56)).alloc o) = .ok () (((W.alloc (.cells Z 56)).alloc o).setRow W.heap.size C) := by
  have hg : ((W.alloc (.cells Z 56)).alloc o).heap[W.heap.size]? = some (.cells Z 56 (0, 0)) := by
    rw [Below.heap_alloc _ _ _ (by simp)]
    exact heap_alloc_new W _
  have h := run_storeCells_from (P := Tryd.prog) W.heap.size 56 C.toList 0 Z _ hg (by simp [hs]) h1
  simpa using h
theorem row2_at (W : World) (Z C : Array Value) (o : Obj) : (((W.alloc (.cells Z 56)).alloc o).setRow W.heap.size C).heap[W.heap.size]? = some (.cells C 56 (0, 0)) := by
  refine setRow_heap _ _ Z C _ _ ?_
  rw [Below.heap_alloc _ _ _ (by simp)]
  exact heap_alloc_new W _
theorem below_row2 (w : World) (o1 : Obj) (Z C : Array Value) (o : Obj) : Below w.heap.size w ((((w.alloc o1).alloc (.cells Z 56)).alloc o).setRow (w.heap.size + 1) C) := by
  refine ((((Below.refl _ _).alloc (Nat.le_refl _) o1).alloc (by simp) (.cells Z 56)).alloc (by simp; omega) o).trans ⟨rfl, rfl, rfl, by simp, fun k hk => ?_⟩
  exact setRow_other _ _ _ _ (by omega)

set_option maxHeartbeats 8000000 in
set_option maxRecDepth 100000 in
theorem row_core (a b c d : Nat) (Z : Array Value) (hz : ∀ w, (zeroValue 56).run Tryd.prog w = .ok (.agg Z) w) (hZ : Hid (Z.size = 256)) (w : World) (HO : Hid (Ok a b c d)) :
    Calls Tryd.prog 38 #[.agg #[.int .u64 a, .int .u64 b, .int .u64 c, .int .u64 d]] w fun e w' => e = .returned (.agg (boolsOf (mem a b c d) 256)) ∧ Below w.heap.size w w' := by
  go_enter Tryd.func38, Tryd.ntmps38
  go_wp2_with fail
  go_loopw [8] (fun i wr => ∃ (k : Nat) (C : Array Value), k ≤ 4 ∧ i = .int .i64 k ∧ Filled (mem a b c d) C (64 * k) ∧ wr = ((w.alloc (.cells #[.int .u64 a, .int .u64 b, .int .u64 c, .int .u64 d] 24)).alloc (.cells Z 56)).alloc (.cells C 56)) (fun i _ => 4 - (intOf i).toNat)
  case atStart => exact ⟨0, Z, by omega, rfl, filled_zero _ _ hZ.out, rfl⟩
  case round =>
    obtain ⟨k, C, hk, rfl, HF, rfl⟩ := hrel
    by_cases hlt : k < 4
    · obtain ⟨x, hx⟩ : ∃ x : Nat, word a b c d k = x := ⟨_, rfl⟩
      have hidx : ∀ w : World, (Instr.index 24 (.agg #[.int .u64 a, .int .u64 b, .int .u64 c, .int .u64 d]) (.int .i64 (k : Int))).run Tryd.prog w = .ok (.int .u64 (x : Int)) w := fun w => by rw [← hx]; exact index_word a b c d k hlt w
      have hx64 : x < 18446744073709551616 := by rw [← hx]; exact word_lt HO.out k
      have HX := Lib.hid hx
      have HX64 := Lib.hid hx64
      clear hx hx64
      go_wp2_with fail
      clear hidx
      go_loopw [5, 12] (fun pt i wr => ∃ (n : Nat) (C : Array Value), n ≤ 64 ∧ i = .int .i64 n ∧ pt = .int .u64 ((x / 2 ^ n : Nat) : Int) ∧ Filled (mem a b c d) C (64 * k + n) ∧ wr = ((w.alloc (.cells #[.int .u64 a, .int .u64 b, .int .u64 c, .int .u64 d] 24)).alloc (.cells Z 56)).alloc (.cells C 56)) (fun _ i _ => 64 - (intOf i).toNat)
      case atStart => exact ⟨0, C, by omega, rfl, by simp, HF, rfl⟩
      case round =>
        clear HF
        obtain ⟨n, C, hn, rfl, rfl, HF, rfl⟩ := hrel
        obtain ⟨y, hy⟩ : ∃ y : Nat, x / 2 ^ n = y := ⟨_, rfl⟩
        rw [hy]
        have hyx : y ≤ x := by rw [← hy]; exact Nat.div_le_self _ _
        have hy64 : (y : Int) ≤ 18446744073709551615 := by have := HX64.out; omega
        have HY := Lib.hid hy
        have HFS := HF.1
        have HFF := Lib.hid HF
        clear hy hyx HF
        by_cases hlt2 : n < 64
        · obtain ⟨t, ht⟩ : ∃ t : Bool, (((y : Int) % 2) == 1) = t := ⟨_, rfl⟩
          obtain ⟨v, hv⟩ : ∃ v, C[64 * k + n]? = some v := ⟨C[64 * k + n]'(by omega), by simp⟩
          go_wp2_with fail
          go_roundw
          case rel => exact ⟨n + 1, _, by omega, by go_num, by rw [half_at x n y HY.out]; simp, by rw [← Nat.add_assoc]; exact filled_step HFF.out (by omega) (by rw [bit_at k n y hlt2 (by rw [HX.out]; exact HY.out)]; exact ht), rfl⟩
          case measure => simp [intOf]; omega
        · have hn64 : n = 64 := by omega
          subst hn64
          clear hlt2 hn
          go_wp2_with fail
          go_roundw
          case rel => exact ⟨k + 1, C, by omega, by go_num, by rw [Nat.mul_add]; exact HFF.out, rfl⟩
          case measure => simp [intOf]; omega
    · have hk4 : k = 4 := by omega
      subst hk4
      clear hlt hk
      have hCs : C.size = 256 := HF.1
      have hC : C = boolsOf (mem a b c d) 256 := filled_all HF
      have hone : ∀ v ∈ C.toList, v.oneCell' = true := by rw [hC]; exact bools_one _ _
      have HCE := Lib.hid hC
      clear hC HF
      have hst := store_row2 (W := w.alloc (.cells #[.int .u64 a, .int .u64 b, .int .u64 c, .int .u64 d] 24)) Z C (.cells C 56) (by rw [hZ.out, hCs]) hone
      simp only [World.size_alloc] at hst
      have hld : (((w.alloc (.cells #[.int .u64 a, .int .u64 b, .int .u64 c, .int .u64 d] 24)).alloc (.cells Z 56)).alloc (.cells C 56)).heap[w.heap.size + 1 + 1]? = some (.cells C 56 (0, 0)) := by
        have := heap_alloc_new ((w.alloc (.cells #[.int .u64 a, .int .u64 b, .int .u64 c, .int .u64 d] 24)).alloc (.cells Z 56)) (.cells C 56)
        simpa only [World.size_alloc] using this
      have HLD := Lib.hid hld
      have hr2 := row2_at (w.alloc (.cells #[.int .u64 a, .int .u64 b, .int .u64 c, .int .u64 d] 24)) Z C (.cells C 56)
      simp only [World.size_alloc] at hr2
      have HR2 := Lib.hid hr2
      clear hr2
      have HONE := Lib.hid hone
      clear hld hone
      go_wp2_with fail
      refine wp_load_row 56 _ rfl (w.heap.size + 1 + 1) rfl 56 C (0, 0) _ HLD.out Tryd.underlying56 rfl (by rw [size_row, hCs]) ?_
      go_wp2_with fail
      refine bodyPost_ret (v := .agg C) ?_ rfl ⟨by rw [← HCE.out], ?_⟩
      · exact results_cell_row (fn := Tryd.f38) rfl _ _ (w.heap.size + 1) 56 C (0, 0) _ rfl HR2.out Tryd.underlying56 rfl (by rw [size_row, hCs])
      · exact below_row2 w _ Z C _

/-- corebellref.ARow, for every set. -/
theorem row_any (a b c d : Nat) (w : World) (h : Ok a b c d) :
    Calls Tryd.prog 38 #[.agg #[.int .u64 a, .int .u64 b, .int .u64 c, .int .u64 d]] w fun e w' => e = .returned (.agg (boolsOf (mem a b c d) 256)) ∧ Below w.heap.size w w' :=
  row_core a b c d _ (zero_of_info info_row).1 (size_boolsOf _ _) w h
end Go.Proofs.YtgddbmbljlngnaaDoor
