/- TtyWord: the walk. -/
import Derived.Test.YtomgifdnnfbpnaaDoorTErase
import Derived.Test.YtomgifdnnfbpnaaDoorRepB
namespace Go.Proofs.YtomgifdnnfbpnaaDoor
open Go.RowKit

theorem lns_four (X : World) {a1 a2 a3 a4 : Option Addr} {n1 n2 n3 n4 c1 c2 c3 c4 : Nat} {l1 l2 l3 l4 : List UInt8} (h1 : shB.At X a1 c1 l1) (e1 : l1.length = n1) (h2 : shB.At X a2 c2 l2) (e2 : l2.length = n2) (h3 : shB.At X a3 c3 l3) (e3 : l3.length = n3) (h4 : shB.At X a4 c4 l4) (e4 : l4.length = n4) (cap : Nat) : LnsAt (X.alloc (.cells #[.slice a1 n1 c1, .slice a2 n2 c2, .slice a3 n3 c3, .slice a4 n4 c4] 23)) (some ⟨X.heap.size, 0, none⟩) cap [l1, l2, l3, l4] :=
  ⟨[(a1, n1, c1), (a2, n2, c2), (a3, n3, c3), (a4, n4, c4)], Shape.At.lit (S := shL) _ (heap_alloc_new X _), (Lin.app (Lin.one ⟨e1.symm, h1⟩) (Lin.app (Lin.one ⟨e2.symm, h2⟩) (Lin.app (Lin.one ⟨e3.symm, h3⟩) (Lin.one ⟨e4.symm, h4⟩)))).step (below_alloc X _)⟩
theorem lit32 (X : World) (cap : Nat) : shB.At (X.alloc (.cells #[.int .u8 32] 5)) (some ⟨X.heap.size, 0, none⟩) cap [32] := Shape.At.lit (S := shB) [32] (heap_alloc_new X _)
theorem lit23 (X : World) (cap : Nat) : shB.At (X.alloc (.cells #[.int .u8 23] 5)) (some ⟨X.heap.size, 0, none⟩) cap [23] := Shape.At.lit (S := shB) [23] (heap_alloc_new X _)
end Go.Proofs.YtomgifdnnfbpnaaDoor
