/- SpreadOrder at arguments of any length that the form can read: its arguments by the names of the later stages. -/
import Derived.Test.YtmldedkmmhnihaaSprOr
namespace Go.Proofs.Ytmldedkmmhnihaa
open Go.ChangeShapes Go.WideShapes Go.ChangeAt Go.RowKit Go.Deep

theorem readInt : Try.prog.readableRec 3 = true := by kernel_rfl
/-- A number. -/
def ArgInt (_ : World) (v : Value) : Prop := ∃ n : Int, v = .int .i64 n
section
variable {H : Type} {enc : TypeId × Value → H} {W : World}
theorem arg_int {base : Nat} {v : Value} {dt : DataW H} {p : List MemPlace} (hv : Value.okWide Try.prog W .any base 3 v) (h : DataW.Trod enc Try.prog W 0 (fun _ => true) true 3 v dt p) : ArgInt W v := by
  obtain ⟨a, rfl, _, _, _⟩ := open_int Try.underlying3 hv h
  exact ⟨a, rfl⟩
theorem staysP {t : TypeId} (hr : Try.prog.readableRec t = true) (hrow : t < Try.prog.types.size) {W' : World} {v : Value} {d : DataW H} {ps : List MemPlace} (h : DataW.Trod enc Try.prog W 0 (fun _ => true) true t v d ps) (hb : Below W.heap.size W W') :
    DataW.Trod enc Try.prog W' 0 (fun b => decide (b < W.heap.size)) true t v d ps := staysI hr hrow h hb
end
theorem spreadOrder_walk (v0 v1 : Value) (w : World) (g0 : ArgI w v0) (g1 : ArgInt w v1) (u0 : lenOf v0 ≤ 17592186044415) : Calls Try.prog 6 #[v0, v1] w fun e w' => e = .returned (.bool true) ∧ Below w.heap.size w w' := by
  obtain ⟨C, rfl⟩ := g1
  exact spreadOrder_any v0 C w g0 u0
end Go.Proofs.Ytmldedkmmhnihaa
