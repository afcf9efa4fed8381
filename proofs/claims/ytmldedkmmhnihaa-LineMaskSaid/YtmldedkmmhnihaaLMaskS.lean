/- LineMask at arguments of any length that the form can read: its arguments by the names of the later stages. -/
import Derived.Test.YtmldedkmmhnihaaLMask
namespace Go.Proofs.Ytmldedkmmhnihaa
open Go.ChangeShapes Go.WideShapes Go.ChangeAt Go.RowKit Go.Deep

theorem readInt : Try.prog.readableRec 3 = true := by kernel_rfl
/-- A number; operations, and room for them. -/
def ArgInt (_ : World) (v : Value) : Prop := ∃ n : Int, v = .int .i64 n
def ArgOpsC (w : World) (v : Value) : Prop := ArgOps w v ∧ CapOk v
section
variable {H : Type} {enc : TypeId × Value → H} {W : World}
theorem arg_int {base : Nat} {v : Value} {dt : DataW H} {p : List MemPlace} (hv : Value.okWide Try.prog W .any base 3 v) (h : DataW.Trod enc Try.prog W 0 (fun _ => true) true 3 v dt p) : ArgInt W v := by
  obtain ⟨a, rfl, _, _, _⟩ := open_int Try.underlying3 hv h
  exact ⟨a, rfl⟩
theorem arg_popsc {base : Nat} {v : Value} {dt : DataW H} {p : List MemPlace} (hv : Value.okWide Try.prog W .any base 23 v) (h : DataW.Trod enc Try.prog W 0 (fun _ => true) true 23 v dt p) : ArgOpsC W v ∧ (lenOf v = 0 ∨ ∃ el sp, dt = .slice el sp ∧ el.length = lenOf v) :=
  ⟨⟨(arg_ops hv h).1, cap_of hv h⟩, (arg_ops hv h).2⟩
end
theorem lineMask_walk (v0 v1 v2 v3 : Value) (w : World) (g0 : ArgPins w v0) (g1 : ArgOpsC w v1) (g2 : ArgInt w v2) (g3 : ArgInt w v3) (u1 : lenOf v1 ≤ 8796093021952) : Calls Try.prog 4 #[v0, v1, v2, v3] w fun e w' => e = .returned (.bool true) ∧ Below w.heap.size w w' := by
  obtain ⟨x, rfl⟩ := g2
  obtain ⟨y, rfl⟩ := g3
  exact lineMask_any v0 v1 x y w g0 g1.1 u1 g1.2
end Go.Proofs.Ytmldedkmmhnihaa
