/- '==' on two states of a controller that are the same. -/
import Derived.Test.YtgddbmbljlngnaaDoorEq
namespace Go.Proofs.YtgddbmbljlngnaaDoor

theorem part_row (xs ys : Array Value) (i : Nat) (h : xs.extract i (i + 4) = ys) (w : World) : (part 24 xs i).run Tryd.prog w = .ok (.agg ys) w := by
  simp [part, Tryd.isAgg24, Tryd.sizeOf24, h, Sem.run_bind]

theorem eq_bits' (x0 x1 x2 x3 y0 y1 y2 y3 : Int) (w : World) :
    (Op.equalIn 9999 24 (.agg #[.int .u64 x0, .int .u64 x1, .int .u64 x2, .int .u64 x3]) (.agg #[.int .u64 y0, .int .u64 y1, .int .u64 y2, .int .u64 y3])).run Tryd.prog w
      = .ok (x0 == y0 && (x1 == y1 && (x2 == y2 && x3 == y3))) w := by
  have e : ∀ (x y : Int) (w : World), (Op.equalIn 9998 22 (.int .u64 x) (.int .u64 y)).run Tryd.prog w = .ok (x == y) w := fun x y w => run_equalIn_int w 9997 _ _ _ x y Tryd.underlying22
  rw [Op.equalIn]
  simp only [Sem.run_bind, run_underlying Tryd.underlying24, Result.andThen_ok, Tryd.sizeOf22]
  simp [Std.Legacy.Range.forIn_eq_forIn_range', Std.Legacy.Range.size, List.range', Sem.run_bind]
  have p : ∀ (a b c d : Value) (w : World), (part 22 #[a, b, c, d] 0).run Tryd.prog w = .ok a w ∧ (part 22 #[a, b, c, d] 1).run Tryd.prog w = .ok b w ∧ (part 22 #[a, b, c, d] 2).run Tryd.prog w = .ok c w ∧ (part 22 #[a, b, c, d] 3).run Tryd.prog w = .ok d w :=
    fun a b c d w => ⟨part_at _ 0 a rfl w, part_at _ 1 b rfl w, part_at _ 2 c rfl w, part_at _ 3 d rfl w⟩
  simp only [(p _ _ _ _ _).1, (p _ _ _ _ _).2.1, (p _ _ _ _ _).2.2.1, (p _ _ _ _ _).2.2.2, Result.andThen_ok, e]
  cases x0 == y0
  · simp
  · cases x1 == y1
    · simp
    · cases x2 == y2
      · simp
      · cases x3 == y3 <;> simp

theorem eq_local (x0 x1 x2 x3 x4 x5 x6 x7 x8 : Int) (w : World) :
    (Op.equalIn 10000 26 (.agg #[.int .u64 x0, .int .u64 x1, .int .u64 x2, .int .u64 x3, .int .u64 x4, .int .u64 x5, .int .u64 x6, .int .u64 x7, .int .i64 x8]) (.agg #[.int .u64 x0, .int .u64 x1, .int .u64 x2, .int .u64 x3, .int .u64 x4, .int .u64 x5, .int .u64 x6, .int .u64 x7, .int .i64 x8])).run Tryd.prog w = .ok true w := by
  have e : ∀ (x y : Int) (w : World), (Op.equalIn 9999 3 (.int .i64 x) (.int .i64 y)).run Tryd.prog w = .ok (x == y) w := fun x y w => run_equalIn_int w 9998 _ _ _ x y Tryd.underlying3
  rw [Op.equalIn]
  simp only [Sem.run_bind, run_underlying Tryd.underlying26, Result.andThen_ok]
  have hs : Tryd.prog.stoodInHeld 26 = false := by kernel_rfl
  have p0 : ∀ w : World, (part 24 #[.int .u64 x0, .int .u64 x1, .int .u64 x2, .int .u64 x3, .int .u64 x4, .int .u64 x5, .int .u64 x6, .int .u64 x7, .int .i64 x8] 0).run Tryd.prog w = .ok (.agg #[.int .u64 x0, .int .u64 x1, .int .u64 x2, .int .u64 x3]) w := fun w => part_row _ _ 0 rfl w
  have p1 : ∀ w : World, (part 24 #[.int .u64 x0, .int .u64 x1, .int .u64 x2, .int .u64 x3, .int .u64 x4, .int .u64 x5, .int .u64 x6, .int .u64 x7, .int .i64 x8] 4).run Tryd.prog w = .ok (.agg #[.int .u64 x4, .int .u64 x5, .int .u64 x6, .int .u64 x7]) w := fun w => part_row _ _ 4 rfl w
  have p2 : ∀ w : World, (part 3 #[.int .u64 x0, .int .u64 x1, .int .u64 x2, .int .u64 x3, .int .u64 x4, .int .u64 x5, .int .u64 x6, .int .u64 x7, .int .i64 x8] 8).run Tryd.prog w = .ok (.int .i64 x8) w := fun w => by simp [part, Tryd.isAgg3, Sem.run_bind]
  simp [hs, Sem.run_bind, p0, p1, p2, eq_bits', e]
end Go.Proofs.YtgddbmbljlngnaaDoor
