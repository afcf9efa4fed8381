/- Walks: bits.Top, by the highest word that is not 0. -/
import Derived.Test.YtmldedkmmhnihaaDoorBitsA
import Derived.Test.YtmldedkmmhnihaaDoorShelf
namespace Go.Proofs.YtmldedkmmhnihaaDoor
open Go.RowKit


theorem tz64_k (x k : Nat) (w : World) (h1 : x < 2 ^ 64) (hT : Tab w) (hk : Hid (Lib.ctz 64 x = k)) :
    Calls Tryd.prog 25 #[.int .u64 x] w fun e w' => e = .returned (.int .i64 k) ∧ w = w' := by
  rw [← hk.out]
  exact tz64_any x w h1 hT





end Go.Proofs.YtmldedkmmhnihaaDoor
