/- Package soft: '==' on eight bools; the walk of anyPending. -/
import Derived.Test.YtnaplbkigebdiaaSofB
namespace Go.Proofs.Ytnaplbkigebdiaa
open Go.RowKit

/-- Eight bools as a row. -/
def b8 (f : Nat → Bool) : List Value := [.bool (f 0), .bool (f 1), .bool (f 2), .bool (f 3), .bool (f 4), .bool (f 5), .bool (f 6), .bool (f 7)]
def anyJ (f : Nat → Bool) : Bool := f 0 || (f 1 || (f 2 || (f 3 || (f 4 || (f 5 || (f 6 || f 7))))))
theorem any_empty (f : Nat → Bool) : anyJ f = false ↔ EmptyJ f := by
  unfold anyJ EmptyJ
  constructor
  · intro h s hs
    simp only [Bool.or_eq_false_iff] at h
    rcases eight8 hs with rfl | rfl | rfl | rfl | rfl | rfl | rfl | rfl <;> simp [h]
  · intro h
    simp [h 0 (by decide), h 1 (by decide), h 2 (by decide), h 3 (by decide), h 4 (by decide), h 5 (by decide), h 6 (by decide), h 7 (by decide)]
theorem part_b8 (xs : Array Value) (i : Nat) (v : Value) (h : xs[i]? = some v) (w : World) : (part 4 xs i).run Try.prog w = .ok v w := by
  simp [part, Try.isAgg4, h, Sem.run_bind]
theorem size_b8 : (Try.prog.info? 45).map (·.size) = some 8 := by kernel_rfl
theorem eq_b8 (x0 x1 x2 x3 x4 x5 x6 x7 : Bool) (w : World) :
    (Op.equalIn 10000 45 (.agg #[.bool x0, .bool x1, .bool x2, .bool x3, .bool x4, .bool x5, .bool x6, .bool x7]) (.agg #[.bool false, .bool false, .bool false, .bool false, .bool false, .bool false, .bool false, .bool false])).run Try.prog w
      = .ok (!(x0 || (x1 || (x2 || (x3 || (x4 || (x5 || (x6 || x7)))))))) w := by
  have e : ∀ (x y : Bool) (w : World), (Op.equalIn 9999 4 (.bool x) (.bool y)).run Try.prog w = .ok (x == y) w := fun x y w => run_equalIn_bool w 9998 _ x y Try.underlying4
  rw [Op.equalIn]
  simp only [Sem.run_bind, run_underlying Try.underlying45, Result.andThen_ok, Try.sizeOf4]
  simp [Std.Legacy.Range.forIn_eq_forIn_range', Std.Legacy.Range.size, List.range', Sem.run_bind]
  have p : ∀ (a b c d a' b' c' d' : Value) (w : World), (part 4 #[a, b, c, d, a', b', c', d'] 0).run Try.prog w = .ok a w ∧ (part 4 #[a, b, c, d, a', b', c', d'] 1).run Try.prog w = .ok b w ∧ (part 4 #[a, b, c, d, a', b', c', d'] 2).run Try.prog w = .ok c w ∧ (part 4 #[a, b, c, d, a', b', c', d'] 3).run Try.prog w = .ok d w
      ∧ (part 4 #[a, b, c, d, a', b', c', d'] 4).run Try.prog w = .ok a' w ∧ (part 4 #[a, b, c, d, a', b', c', d'] 5).run Try.prog w = .ok b' w ∧ (part 4 #[a, b, c, d, a', b', c', d'] 6).run Try.prog w = .ok c' w ∧ (part 4 #[a, b, c, d, a', b', c', d'] 7).run Try.prog w = .ok d' w :=
    fun a b c d a' b' c' d' w => ⟨part_b8 _ 0 a rfl w, part_b8 _ 1 b rfl w, part_b8 _ 2 c rfl w, part_b8 _ 3 d rfl w, part_b8 _ 4 a' rfl w, part_b8 _ 5 b' rfl w, part_b8 _ 6 c' rfl w, part_b8 _ 7 d' rfl w⟩
  simp only [(p _ _ _ _ _ _ _ _ _).1, (p _ _ _ _ _ _ _ _ _).2.1, (p _ _ _ _ _ _ _ _ _).2.2.1, (p _ _ _ _ _ _ _ _ _).2.2.2.1, (p _ _ _ _ _ _ _ _ _).2.2.2.2.1, (p _ _ _ _ _ _ _ _ _).2.2.2.2.2.1, (p _ _ _ _ _ _ _ _ _).2.2.2.2.2.2.1, (p _ _ _ _ _ _ _ _ _).2.2.2.2.2.2.2, Result.andThen_ok, e]
  cases x0 <;> cases x1 <;> cases x2 <;> cases x3 <;> cases x4 <;> cases x5 <;> cases x6 <;> cases x7 <;> simp
theorem Pg.range {w0 w : World} {B d lc ec : Nat} {rs : List RaT} {f : Nat → Bool} {ran : List Nat} {la ea : Option Addr} (h : Pg w0 w B rs f d ran la lc ea ec) : w.rangeAt B 0 (b8 f) := fun j v hv => by
  have hj : j < 8 := (List.getElem?_eq_some_iff.1 hv).1
  rw [Nat.zero_add, h.cells.1 j hj, ← hv]
  rcases eight8 hj with rfl | rfl | rfl | rfl | rfl | rfl | rfl | rfl <;> rfl
set_option maxHeartbeats 1000000 in
set_option maxRecDepth 100000 in
theorem any_N {w0 w : World} {B d lc ec : Nat} {rs : List RaT} {f : Nat → Bool} {ran : List Nat} {la ea : Option Addr} (HP : Hid (Pg w0 w B rs f d ran la lc ea ec)) (b : Bool) (hb : Hid (anyJ f = b)) :
    Calls Try.prog 21 #[.pointer (some ⟨B, 0, none⟩)] w fun e w' => e = .returned (.bool b) ∧ w = w' := by
  obtain ⟨x0, h0⟩ : ∃ x, f 0 = x := ⟨_, rfl⟩
  obtain ⟨x1, h1⟩ : ∃ x, f 1 = x := ⟨_, rfl⟩
  obtain ⟨x2, h2⟩ : ∃ x, f 2 = x := ⟨_, rfl⟩
  obtain ⟨x3, h3⟩ : ∃ x, f 3 = x := ⟨_, rfl⟩
  obtain ⟨x4, h4⟩ : ∃ x, f 4 = x := ⟨_, rfl⟩
  obtain ⟨x5, h5⟩ : ∃ x, f 5 = x := ⟨_, rfl⟩
  obtain ⟨x6, h6⟩ : ∃ x, f 6 = x := ⟨_, rfl⟩
  obtain ⟨x7, h7⟩ : ∃ x, f 7 = x := ⟨_, rfl⟩
  have hr := HP.out.range
  have heb := eq_b8 x0 x1 x2 x3 x4 x5 x6 x7
  have hbb := hb.out
  unfold b8 at hr
  unfold anyJ at hbb
  rw [h0, h1, h2, h3, h4, h5, h6, h7] at hr hbb
  rw [hbb] at heb
  have HR := Lib.hid hr
  have hs : (Try.prog.info? 45).map (·.size) = some 8 := size_b8
  have HS := Lib.hid hs
  have hB := HP.out.cells.2.2.2.2
  clear hr hs h0 h1 h2 h3 h4 h5 h6 h7 hbb hb
  go_enter Try.func21, Try.ntmps21
  go_wp2_with (first
    | (refine wpList_load_mid rfl 45 _ rfl B 0 rfl [.bool x0, .bool x1, .bool x2, .bool x3, .bool x4, .bool x5, .bool x6, .bool x7] _ HR.out Try.underlying45 rfl HS.out ?_)
    | fail)
  trace_state
  go_ret
  exact ⟨rfl, rfl⟩
end Go.Proofs.Ytnaplbkigebdiaa
