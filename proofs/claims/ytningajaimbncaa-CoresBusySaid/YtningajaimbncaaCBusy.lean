/- CoresBusy: the law at its arguments. -/
import Derived.Test.YtningajaimbncaaCorN
namespace Go.Proofs.Ytningajaimbncaa
open Go.RowKit

theorem coresBusy_walk (v v1 v2 v3 : Value) (w : World) (h : ArgInt w v) (h1 : ArgInt w v1) (h2 : ArgThs w v2) (h3 : ArgInt w v3) (u : lenOf v2 ≤ 5864062014634) : Calls Try.prog 4 #[v, v1, v2, v3] w fun e w' => e = .returned (.bool true) ∧ Below w.heap.size w w' := by
  obtain ⟨c, rfl⟩ := h
  obtain ⟨sl, rfl⟩ := h1
  obtain ⟨ad, cap, l, rfl, hA, _, _⟩ := h2
  obtain ⟨tk, rfl⟩ := h3
  have hu : l.length ≤ 5864062014634 := u
  exact busy_W c sl tk w (Lib.hid hA) (Lib.hid rfl) (by omega)
end Go.Proofs.Ytningajaimbncaa
