/- '==' on two sets of four words: it compares them word by word. -/
import Derived.Test.YtgddbmbljlngnaaDoorProg
import Derived.WalkKit
namespace Go.Proofs.YtgddbmbljlngnaaDoor

theorem part_at (xs : Array Value) (i : Nat) (v : Value) (h : xs[i]? = some v) (w : World) : (part 22 xs i).run Tryd.prog w = .ok v w := by
  simp [part, Tryd.isAgg22, h, Sem.run_bind]

theorem eq_bits (x0 x1 x2 x3 y0 y1 y2 y3 : Int) (w : World) :
    (Op.equalIn 10000 24 (.agg #[.int .u64 x0, .int .u64 x1, .int .u64 x2, .int .u64 x3]) (.agg #[.int .u64 y0, .int .u64 y1, .int .u64 y2, .int .u64 y3])).run Tryd.prog w
      = .ok (x0 == y0 && (x1 == y1 && (x2 == y2 && x3 == y3))) w := by
  have e : ∀ (x y : Int) (w : World), (Op.equalIn 9999 22 (.int .u64 x) (.int .u64 y)).run Tryd.prog w = .ok (x == y) w := fun x y w => run_equalIn_int w 9998 _ _ _ x y Tryd.underlying22
  rw [Op.equalIn]
  simp only [Sem.run_bind, run_underlying Tryd.underlying24, Result.andThen_ok, Tryd.sizeOf22]
  simp [Std.Legacy.Range.forIn_eq_forIn_range', Std.Legacy.Range.size, List.range', Sem.run_bind]
  have p : ∀ (a b c d : Value) (w : World), (part 22 #[a, b, c, d] 0).run Tryd.prog w = .ok a w ∧ (part 22 #[a, b, c, d] 1).run Tryd.prog w = .ok b w ∧ (part 22 #[a, b, c, d] 2).run Tryd.prog w = .ok c w ∧ (part 22 #[a, b, c, d] 3).run Tryd.prog w = .ok d w :=
    fun a b c d w => ⟨part_at _ 0 a rfl w, part_at _ 1 b rfl w, part_at _ 2 c rfl w, part_at _ 3 d rfl w⟩
  simp only [(p _ _ _ _ _).1, (p _ _ _ _ _).2.1, (p _ _ _ _ _).2.2.1, (p _ _ _ _ _).2.2.2, Result.andThen_ok, e]
  cases x0 == y0
  · simp
  · cases x1 == y1
    · simp
    · cases x2 == y2
      · simp
      · cases x3 == y3 <;> simp
end Go.Proofs.YtgddbmbljlngnaaDoor
