/- Sums, equality of two rows, and corebellkeep's alive5. -/
import Derived.Test.YtmldedkmmhnihaaSprX
import Derived.Test.YtmldedkmmhnihaaSprZ
import Derived.Test.YtmldedkmmhnihaaSprN
namespace Go.Proofs.Ytmldedkmmhnihaa
open Go.RowKit

theorem wrong_zero {n m : Nat} {ws : Nat → Nat} (hn : n ≤ 400) (hm : 0 < m) (hm8 : m ≤ 8) (hw : ∀ i, i < n → ws i ≤ 1073741824) : wrongV (fun i => (ws i : Int)) n m = 0 := by
  unfold wrongV
  have hb : badW (fun i => (ws i : Int)) n = false := (badW_iff _ n).2 fun i hi => ⟨by omega, by have := hw i hi; omega⟩
  rw [if_neg]
  rintro (h | h | h | h)
  · omega
  · omega
  · omega
  · rw [hb] at h; cases h
set_option maxHeartbeats 1000000 in
theorem equal_R {ad ad2 : Option Addr} {cap cap2 n : Nat} {f g : Nat → Int} (w : World) (HA : Hid (IntAt w ad cap n f)) (HB : Hid (IntAt w ad2 cap2 n g)) (hn : n ≤ 1000) (hf : Hid (∀ i, i < n → f i = g i)) :
    Calls Try.prog 34 #[.slice ad n cap, .slice ad2 n cap2] w fun e w' => e = .returned (.bool true) ∧ ∃ q, w' = w.drewN q := by
  go_enter Try.func34, Try.ntmps34
  go_wp2_with fail
  go_loopw [13] (fun i wr => ∃ k : Nat, k ≤ n ∧ i = .int .i64 k ∧ ∃ q, wr = w.drewN q) (fun i _ => n - (intOf i).toNat)
  case atStart => exact ⟨0, Nat.zero_le _, rfl, 0, rfl⟩
  case round =>
    obtain ⟨k, hk, rfl, q, rfl⟩ := hrel
    by_cases hlt : k < n
    · obtain ⟨b, off, rfl, _, hc⟩ := HA.out.2 (by omega)
      obtain ⟨b2, off2, rfl, _, hc2⟩ := HB.out.2 (by omega)
      have c0 := hc k hlt
      have c1 := hc2 k hlt
      rw [hf.out k hlt] at c0
      obtain ⟨x, hx⟩ : ∃ x, g k = x := ⟨_, rfl⟩
      rw [hx] at c0 c1
      clear hc hc2 hx
      go_wp2_with fail
      go_quiet (fail)
      go_wp2_with fail
      go_roundw
      case rel => exact ⟨k + 1, by omega, by go_num, _, rfl⟩
      case measure => simp [intOf]; omega
    · obtain rfl : k = n := by omega
      clear hlt hk
      go_wp2_with fail
      go_ret
      exact ⟨rfl, _, rfl⟩
/-- A literal of numbers in a block. -/
theorem lit_at {w : World} {b cap : Nat} {l : List Nat} (h : w.heap[b]? = some (.cells (l.map fun x : Nat => Value.int .i64 (x : Int)).toArray 3 (0, 0))) : IntAt w (some ⟨b, 0, none⟩) cap l.length (fun i => ((l.getD i 0 : Nat) : Int)) :=
  ⟨(fun h => by cases h), fun _ => ⟨b, 0, rfl, (Array.getElem?_eq_some_iff.1 h).1, fun i hi => by
    rw [Nat.zero_add, cell_of_row w b i _ _ _ h]
    simp [List.getD_eq_getElem?_getD, List.getElem?_eq_getElem hi]⟩⟩
def w4 : Nat → Nat := fun i => [2, 3, 4, 5].getD i 0
def w5 : Nat → Nat := fun i => [3, 3, 2, 2, 2].getD i 0
theorem plan4 : (planP w4 2 (fun i => i) 4).2 0 = 0 ∧ (planP w4 2 (fun i => i) 4).2 1 = 1 ∧ (planP w4 2 (fun i => i) 4).2 2 = 0 ∧ (planP w4 2 (fun i => i) 4).2 3 = 1 ∧ mostP w4 2 (fun i => i) 4 = 8 := by decide
theorem long4 {O : Nat → Nat} (hp : Perm O 4) (hs : Srt w4 O 0 4) : mostP w4 2 O 4 = 7 := by
  have k1 : Perm (fun i => 3 - i) 4 := ⟨fun i _ => by show 3 - i < 4; omega, fun i j h1 h2 h3 => by have : 3 - i = 3 - j := h3; omega⟩
  have k2 : Srt w4 (fun i => 3 - i) 0 4 := fun i j _ h2 h3 => by
    have h4 : (i = 0 ∧ (j = 1 ∨ j = 2 ∨ j = 3)) ∨ (i = 1 ∧ (j = 2 ∨ j = 3)) ∨ (i = 2 ∧ j = 3) := by omega
    rcases h4 with ⟨rfl, rfl | rfl | rfl⟩ | ⟨rfl, rfl | rfl⟩ | ⟨rfl, rfl⟩ <;> (left; decide)
  rw [mostP_congr (srt_uniq hp hs k1 k2)]
  decide
theorem best5 {v : Nat} (h : IsBest w5 2 5 v) : v = 6 := by
  refine best_uniq h ⟨⟨fun i => if i < 2 then 0 else 1, fun i _ => by show (if i < 2 then 0 else 1) < 2; split <;> omega, fun c hc => ?_⟩, fun u A hu hA => ?_⟩
  · have : c = 0 ∨ c = 1 := by omega
    rcases this with rfl | rfl <;> decide
  · have h1 := plans_total hA
    have h2 : sumF w5 5 = 12 := by decide
    omega
section
variable {ad : Option Addr} {cap n m : Nat} {ws : Nat → Nat}
theorem list_M (w : World) (M : Int) (hM : Hid (M = (m : Int))) (HA : Hid (IntAt w ad cap n (fun i => (ws i : Int)))) (hn : n ≤ 400) (hm : 0 < m) (hm8 : m ≤ 8) (hw : Hid (∀ i, i < n → ws i ≤ 1073741824)) :
    Calls Try.prog 33 #[.slice ad n cap, .int .i64 M] w (PlanOk w ws m n (fun i => i)) := by
  obtain rfl := hM.out
  exact list_ok w HA hn hm hm8 hw (Lib.hid (wrong_zero hn hm hm8 hw.out))
theorem long_M (w : World) (M : Int) (hM : Hid (M = (m : Int))) (HA : Hid (IntAt w ad cap n (fun i => (ws i : Int)))) (hn : n ≤ 400) (hm : 0 < m) (hm8 : m ≤ 8) (hw : Hid (∀ i, i < n → ws i ≤ 1073741824)) :
    Calls Try.prog 21 #[.slice ad n cap, .int .i64 M] w (PlanLong w ws m n) := by
  obtain rfl := hM.out
  exact long_ok w HA hn hm hm8 hw (Lib.hid (wrong_zero hn hm hm8 hw.out))
theorem best_M (w : World) (M : Int) (hM : Hid (M = (m : Int))) (HA : Hid (IntAt w ad cap n (fun i => (ws i : Int)))) (hn : n ≤ 9) (hm : 0 < m) (hm8 : m ≤ 8) (hw : Hid (∀ i, i < n → ws i ≤ 1073741824)) :
    Calls Try.prog 22 #[.slice ad n cap, .int .i64 M] w (BestOk w ws m n) := by
  obtain rfl := hM.out
  exact best_ok w HA hn hm (by omega) hw (Lib.hid (wrong_zero (by omega) hm hm8 hw.out))
end
theorem lit4 (w : World) : IntAt (w.alloc (.cells #[.int .i64 2, .int .i64 3, .int .i64 4, .int .i64 5] 3)) (some ⟨w.heap.size, 0, none⟩) 4 4 (fun i => (w4 i : Int)) := lit_at (l := [2, 3, 4, 5]) (heap_alloc_new w _)
theorem lit5 (w : World) : IntAt (w.alloc (.cells #[.int .i64 3, .int .i64 3, .int .i64 2, .int .i64 2, .int .i64 2] 3)) (some ⟨w.heap.size, 0, none⟩) 5 5 (fun i => (w5 i : Int)) := lit_at (l := [3, 3, 2, 2, 2]) (heap_alloc_new w _)
def a4 : Nat → Nat := fun i => [0, 1, 0, 1].getD i 0
theorem lita (w : World) : IntAt (w.alloc (.cells #[.int .i64 0, .int .i64 1, .int .i64 0, .int .i64 1] 3)) (some ⟨w.heap.size, 0, none⟩) 4 4 (fun i => (a4 i : Int)) := lit_at (l := [0, 1, 0, 1]) (heap_alloc_new w _)
theorem small4 : ∀ i, i < 4 → w4 i ≤ 1073741824 := fun i hi => by
  have : i = 0 ∨ i = 1 ∨ i = 2 ∨ i = 3 := by omega
  rcases this with rfl | rfl | rfl | rfl <;> (simp [w4])
theorem small5 : ∀ i, i < 5 → w5 i ≤ 1073741824 := fun i hi => by
  have : i = 0 ∨ i = 1 ∨ i = 2 ∨ i = 3 ∨ i = 4 := by omega
  rcases this with rfl | rfl | rfl | rfl | rfl <;> (simp [w5])
theorem plan4a : ∀ i, i < 4 → (((planP w4 2 (fun i => i) 4).2 i : Nat) : Int) = ((a4 i : Nat) : Int) := fun i hi => by
  obtain ⟨h0, h1, h2, h3, _⟩ := plan4
  have : i = 0 ∨ i = 1 ∨ i = 2 ∨ i = 3 := by omega
  rcases this with rfl | rfl | rfl | rfl
  · rw [h0]; rfl
  · rw [h1]; rfl
  · rw [h2]; rfl
  · rw [h3]; rfl
theorem below_al (w : World) (o : Obj) : Below w.heap.size w (w.alloc o) := (Below.refl _ _).alloc (Nat.le_refl _) _
/-- Growth upon growth. -/
theorem grow {a b c : World} (h : Below a.heap.size a b) (k : Below b.heap.size b c) : Below a.heap.size a c := h.trans (k.mono h.size)
set_option maxHeartbeats 2000000 in
set_option maxRecDepth 100000 in
theorem alive5_R (w : World) : Calls Try.prog 18 #[] w fun e w' => e = .returned (.bool true) ∧ Below w.heap.size w w' := by
  have HL4 := Lib.hid (lit4 w)
  have HW4 := Lib.hid small4
  have HW5 := Lib.hid small5
  go_enter Try.func18, Try.ntmps18
  go_wp2_with fail
  go_at_call 33
  have i4 : (4 : Nat) ≤ 400 := by omega
  have i2 : 0 < 2 := by omega
  have i8 : 2 ≤ 8 := by omega
  (with_reducible refine (list_M (m := 2) _ 2 (Lib.hid rfl) HL4 i4 i2 i8 HW4).mono ?_)
  rintro e w1 ⟨B, rfl, hr, hB, hb⟩
  have HR := Lib.hid hr
  have B1 := Lib.hid (grow (below_al w _) hb)
  have m8 : ((mostP w4 2 (fun i => i) 4 : Nat) : Int) = 8 := by rw [plan4.2.2.2.2]; rfl
  clear hr hB hb HL4
  go_wp2_with fail
  clear m8
  go_at_call 21
  have HL4 := Lib.hid (lit4 (w1.alloc (.cells #[.slice (some ⟨B, 0, none⟩) 4 4, .int .i64 8] 51)))
  simp only [World.size_alloc] at HL4
  (with_reducible refine (long_M (m := 2) _ 2 (Lib.hid rfl) HL4 i4 i2 i8 HW4).mono ?_)
  rintro e w2 ⟨O, hp, hs, B2, rfl, hr, hB, hb⟩
  have B2' := Lib.hid (grow (grow (below_al w1 _) (below_al _ _)) hb)
  have K2 := (hb.block w1.heap.size (by simp <;> omega)).trans ((heap_alloc_old _ _ (by simp)).trans (heap_alloc_new w1 _))
  have Z2 : w1.heap.size < w2.heap.size := by have := hb.size; simp at this; omega
  have m7 : ((mostP w4 2 O 4 : Nat) : Int) = 7 := by rw [long4 hp hs]; rfl
  clear hr hB hb HL4 hp hs
  go_wp2_with fail
  clear m7
  go_at_call 22
  have HL5 := Lib.hid (lit5 (w2.alloc (.cells #[.slice (some ⟨B2, 0, none⟩) 4 4, .int .i64 7] 51)))
  simp only [World.size_alloc] at HL5
  have i5 : (5 : Nat) ≤ 9 := by omega
  (with_reducible refine (best_M (m := 2) _ 2 (Lib.hid rfl) HL5 i5 i2 i8 HW5).mono ?_)
  rintro e w3 ⟨v, hv, hv2, rfl, hb⟩
  have B3 := Lib.hid (grow (grow (below_al w2 _) (below_al _ _)) hb)
  have K3 := (hb.block w2.heap.size (by simp <;> omega)).trans ((heap_alloc_old _ _ (by simp)).trans (heap_alloc_new w2 _))
  have K2' := (hb.block w1.heap.size (by simp <;> omega)).trans ((heap_alloc_old _ _ (by simp <;> omega)).trans ((heap_alloc_old _ _ Z2).trans K2))
  have ca0 : w3.cell? ⟨w1.heap.size, 0, none⟩ = some (.slice (some ⟨B, 0, none⟩) 4 4) := by rw [cell_of_row w3 _ 0 _ _ _ K2']; rfl
  have ca1 : w3.cell? ⟨w1.heap.size, 1, none⟩ = some (.int .i64 8) := by rw [cell_of_row w3 _ 1 _ _ _ K2']; rfl
  have cb1 : w3.cell? ⟨w2.heap.size, 1, none⟩ = some (.int .i64 7) := by rw [cell_of_row w3 _ 1 _ _ _ K3]; rfl
  have z31 : w1.heap.size < w3.heap.size := by have := hb.size; simp at this; omega
  have z32 : w2.heap.size < w3.heap.size := by have := hb.size; simp at this; omega
  clear K2 K3 K2'
  obtain rfl := best5 hv
  have m6 : ((6 : Nat) : Int) = 6 := rfl
  clear hb HL5 hv hv2
  go_wp2_with fail
  go_at_call 34
  have HX := Lib.hid ((((HR.out.step B2'.out).step B3.out).step (below_al w3 (.cells #[.int .i64 0, .int .i64 1, .int .i64 0, .int .i64 1] 3))).at 4)
  have HY := Lib.hid (lita w3)
  have i10 : 4 ≤ 1000 := by omega
  have HE := Lib.hid plan4a
  (with_reducible refine (equal_R _ HX HY i10 HE).mono ?_)
  rintro e w4 ⟨rfl, q, rfl⟩
  have HB := Lib.hid (below_drewN (grow (grow (grow B1.out B2'.out) B3.out) (below_al w3 (.cells #[.int .i64 0, .int .i64 1, .int .i64 0, .int .i64 1] 3))) q)
  go_wp2_with fail
  go_ret
  exact ⟨rfl, HB.out⟩
end Go.Proofs.Ytmldedkmmhnihaa
