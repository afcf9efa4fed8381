/- CoresDone: the law at its arguments. -/
import Derived.Test.YtningajaimbncaaCorL
import Derived.Test.YtningajaimbncaaCorO
namespace Go.Proofs.Ytningajaimbncaa
open Go.RowKit

theorem coresDone_walk (v v1 v2 : Value) (w : World) (h : ArgInt w v) (h1 : ArgInt w v1) (h2 : ArgThs w v2) (u : lenOf v2 ≤ 5864062014634) : Calls Try.prog 7 #[v, v1, v2] w fun e w' => e = .returned (.bool true) ∧ Below w.heap.size w w' := by
  obtain ⟨c, rfl⟩ := h
  obtain ⟨sl, rfl⟩ := h1
  obtain ⟨ad, cap, l, rfl, hA, _, _⟩ := h2
  exact done_W c sl w (Lib.hid hA) (Lib.hid rfl) u
end Go.Proofs.Ytningajaimbncaa
