/- slices.Equal at error codes and at slots; literals; corebellkeep.alive4. -/
import Derived.Test.YtmldedkmmhnihaaDoorVecPl
namespace Go.Proofs.YtmldedkmmhnihaaDoor
open Go.RowKit

theorem Shape.At.lit {α : Type} {S : Shape α} {w : World} {b T cap : Nat} (l : List α) (hh : w.heap[b]? = some (.cells (S.flat l).toArray T (0, 0))) : S.At w (some ⟨b, 0, none⟩) cap l :=
  ⟨fun e => (by cases e), fun _ => ⟨b, 0, rfl, (Array.getElem?_eq_some_iff.1 hh).1, fun k _ => by
    rw [cell_of_row w b _ _ _ _ hh, Nat.zero_add, List.getElem?_toArray]⟩⟩
theorem at_err {w : World} {ad : Option Addr} {cap k : Nat} {l : List Int} {x : Int} (h : shE.At w ad cap l) (hk : l[k]? = some x) : ∃ b off, ad = some ⟨b, off, none⟩ ∧ b < w.heap.size ∧ w.cell? ⟨b, off + k, none⟩ = some (.int .i64 x) := by
  have hkl := (List.getElem?_eq_some_iff.1 hk).1
  obtain ⟨b, off, e, hb, hl⟩ := h.2 (by omega)
  have h0 := shE.flat_at l k 0 x hk (by decide)
  have hs : shE.size = 1 := rfl
  rw [hs, Nat.mul_one, Nat.add_zero] at h0
  rw [hs] at hl
  exact ⟨b, off, e, hb, by rw [hl _ (by omega), h0]; rfl⟩
theorem at_slot {w : World} {ad : Option Addr} {cap k : Nat} {l : List SlotT} {s : SlotT} (h : shS.At w ad cap l) (hk : l[k]? = some s) : ∃ b off, ad = some ⟨b, off, none⟩ ∧ b < w.heap.size ∧ w.cell? ⟨b, off + k * 2, none⟩ = some (.int .i64 (s.core : Int)) ∧ w.cell? ⟨b, off + k * 2 + 1, none⟩ = some (.int .i64 (s.vec : Int)) := by
  have hkl := (List.getElem?_eq_some_iff.1 hk).1
  obtain ⟨b, off, e, hb, hl⟩ := h.2 (by omega)
  have h0 := shS.flat_at l k 0 s hk (by decide)
  have h1 := shS.flat_at l k 1 s hk (by decide)
  have hs : shS.size = 2 := rfl
  rw [hs] at h0 h1 hl
  refine ⟨b, off, e, hb, ?_, ?_⟩
  · rw [show off + k * 2 = off + (k * 2 + 0) from rfl, hl _ (by omega), h0]; rfl
  · rw [Nat.add_assoc, hl _ (by omega), h1]; rfl
set_option maxHeartbeats 1000000 in
set_option maxRecDepth 100000 in
theorem equalE {a1 a2 : Option Addr} {c1 c2 n : Nat} {l : List Int} (w : World) (hn : Hid (l.length = n)) (h1 : shE.At w a1 c1 l) (h2 : shE.At w a2 c2 l) (hl : n ≤ 9223372036854775807) :
    Calls Tryd.prog 9 #[.slice a1 n c1, .slice a2 n c2] w fun e w' => e = .returned (.bool true) ∧ Below w.heap.size w w' := by
  have H1 := Lib.hid h1
  have H2 := Lib.hid h2
  clear h1 h2
  go_enter Tryd.func9, Tryd.ntmps9
  go_wp2_with fail
  go_loopw [13] (fun i wr => ∃ j : Nat, j ≤ n ∧ i = .int .i64 j ∧ Below w.heap.size w wr) (fun i _ => n - (intOf i).toNat)
  case atStart => exact ⟨0, Nat.zero_le _, rfl, Below.refl _ _⟩
  case round =>
    obtain ⟨j, hj, rfl, BB⟩ := hrel
    by_cases hlt : j < n
    · obtain ⟨x, hx⟩ : ∃ x, l[j]? = some x := ⟨l[j]'(by rw [hn.out]; exact hlt), List.getElem?_eq_getElem _⟩
      obtain ⟨b1, o1, rfl, hb1, e1⟩ := at_err (H1.out.step BB) hx
      obtain ⟨b2, o2, rfl, hb2, e2⟩ := at_err (H2.out.step BB) hx
      clear hx
      go_wp2_with fail
      go_quiet (fail)
      go_wp2_with fail
      go_roundw
      case rel => exact ⟨j + 1, by omega, by go_num, below_drewN BB _⟩
      case measure => simp [intOf]; omega
    · obtain rfl : j = n := by omega
      clear hlt hj
      go_wp2_with fail
      go_ret
      exact ⟨rfl, BB⟩
theorem eq_slot (c v : Int) (w : World) : (Op.equalIn 10000 34 (.agg #[.int .i64 c, .int .i64 v]) (.agg #[.int .i64 c, .int .i64 v])).run Tryd.prog w = .ok true w := by
  have e : ∀ (x y : Int) (w : World), (Op.equalIn 9999 3 (.int .i64 x) (.int .i64 y)).run Tryd.prog w = .ok (x == y) w := fun x y w => run_equalIn_int w 9998 _ _ _ x y Tryd.underlying3
  rw [Op.equalIn]
  simp only [Sem.run_bind, run_underlying Tryd.underlying34, Result.andThen_ok]
  have hs : Tryd.prog.stoodInHeld 34 = false := by kernel_rfl
  have p0 : ∀ w : World, (part 3 #[.int .i64 c, .int .i64 v] 0).run Tryd.prog w = .ok (.int .i64 c) w := fun w => by simp [part, Tryd.isAgg3, Sem.run_bind]
  have p1 : ∀ w : World, (part 3 #[.int .i64 c, .int .i64 v] 1).run Tryd.prog w = .ok (.int .i64 v) w := fun w => by simp [part, Tryd.isAgg3, Sem.run_bind]
  simp [hs, Sem.run_bind, p0, p1, e]
set_option maxHeartbeats 1000000 in
set_option maxRecDepth 100000 in
theorem equalS {a1 a2 : Option Addr} {c1 c2 n : Nat} {l : List SlotT} (w : World) (hn : Hid (l.length = n)) (h1 : shS.At w a1 c1 l) (h2 : shS.At w a2 c2 l) (hl : n ≤ 9223372036854775807) :
    Calls Tryd.prog 8 #[.slice a1 n c1, .slice a2 n c2] w fun e w' => e = .returned (.bool true) ∧ Below w.heap.size w w' := by
  have H1 := Lib.hid h1
  have H2 := Lib.hid h2
  clear h1 h2
  have heq : ∀ (c v : Int) (w : World), (Op.equalIn 10000 34 (.agg #[.int .i64 c, .int .i64 v]) (.agg #[.int .i64 c, .int .i64 v])).run Tryd.prog w = .ok true w := eq_slot
  go_enter Tryd.func8, Tryd.ntmps8
  go_wp2_with fail
  go_loopw [13] (fun i wr => ∃ j : Nat, j ≤ n ∧ i = .int .i64 j ∧ Below w.heap.size w wr) (fun i _ => n - (intOf i).toNat)
  case atStart => exact ⟨0, Nat.zero_le _, rfl, Below.refl _ _⟩
  case round =>
    obtain ⟨j, hj, rfl, BB⟩ := hrel
    by_cases hlt : j < n
    · obtain ⟨x, hx⟩ : ∃ x, l[j]? = some x := ⟨l[j]'(by rw [hn.out]; exact hlt), List.getElem?_eq_getElem _⟩
      obtain ⟨b1, o1, rfl, hb1, e1, f1⟩ := at_slot (H1.out.step BB) hx
      obtain ⟨b2, o2, rfl, hb2, e2, f2⟩ := at_slot (H2.out.step BB) hx
      clear hx
      go_wp2_with fail
      go_quiet (fail)
      go_wp2_with fail
      go_roundw
      case rel => exact ⟨j + 1, by omega, by go_num, below_drewN BB _⟩
      case measure => simp [intOf]; omega
    · obtain rfl : j = n := by omega
      clear hlt hj
      go_wp2_with fail
      go_ret
      exact ⟨rfl, BB⟩
end Go.Proofs.YtmldedkmmhnihaaDoor
