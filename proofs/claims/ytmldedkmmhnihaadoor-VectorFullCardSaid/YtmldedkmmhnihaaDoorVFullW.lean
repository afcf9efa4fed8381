/- VectorFull in the words of its arguments. -/
import Derived.Test.YtmldedkmmhnihaaDoorVFull
import Derived.Test.YtmldedkmmhnihaaDoorVecO
namespace Go.Proofs.YtmldedkmmhnihaaDoor
open Go.RowKit
theorem vectorFull_walk (C N : Int) (v : Value) (L M : Int) (W : World) (hv : ArgV W v) (hl : lenOf v ≤ 5864062014634) (hT : Tab W) :
    Calls Tryd.prog 4 #[.int .i64 C, .int .i64 N, v, .int .i64 L, .int .i64 M] W fun e w' => e = .returned (.bool true) ∧ Below W.heap.size W w' := by
  obtain ⟨ad, cap, l, rfl, h⟩ := hv
  exact vectorFull_R W (Lib.hid hT) C N L M (Lib.hid h) (Lib.hid rfl) hl
end Go.Proofs.YtmldedkmmhnihaaDoor
