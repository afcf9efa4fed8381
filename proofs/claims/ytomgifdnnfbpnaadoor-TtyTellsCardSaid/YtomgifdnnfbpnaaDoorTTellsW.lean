/- TtyTells: the walk, at all arguments. -/
import Derived.Test.YtomgifdnnfbpnaaDoorTTells
import Derived.Test.YtomgifdnnfbpnaaDoorTReads
namespace Go.Proofs.YtomgifdnnfbpnaaDoor
open Go.RowKit

theorem good_resK (s : StQ) (b : UInt8) : GoodQ (resK s b).1 := by
  unfold resK
  by_cases hr : rgtQ s.lines s.lines.length s.edit.length = true
  · rw [if_pos hr]
    by_cases he : errQ s b = 0
    · rw [if_pos he]
      have h := good_keyQ (rgt_good hr) b
      unfold keyQ at h
      rw [if_pos he] at h
      exact h
    · rw [if_neg he]
      exact good_newQ
  · rw [if_neg hr]
    exact good_newQ
theorem good_resR (s : StQ) (a : Int) : GoodQ (resR s a).1 := by
  unfold resR
  by_cases hr : rgtQ s.lines s.lines.length s.edit.length = true
  · rw [if_pos hr]
    split
    · exact good_newQ
    · split
      · exact good_newQ
      · exact good_restQ (rgt_good hr) _
  · rw [if_neg hr]
    exact good_newQ
theorem ttyTells_walk (v v1 v2 : Value) (w : World) (h : ArgTty w v) (h1 : ArgByte w v1) (h2 : ArgInt w v2) : Calls Tryd.prog 3 #[v, v1, v2] w fun e w' => e = .returned (.bool true) ∧ Below w.heap.size w w' := by
  obtain ⟨la, lc, ea, ec, s, rfl, A1, A2, h63, hlc⟩ := h
  obtain ⟨b, rfl⟩ := h1
  obtain ⟨most, rfl, _⟩ := h2
  exact tells_walk w b most (Lib.hid A1) (Lib.hid rfl) (Lib.hid A2) h63 _ _ _ _ _ _ _ _ _ _
    (Lib.hid fun W q1 q2 => key_W W q1 (Lib.hid rfl) q2 (Lib.hid rfl) b)
    (Lib.hid fun W q1 q2 => qkey_W W q1 (Lib.hid rfl) q2 (Lib.hid rfl) h63 b)
    (Lib.hid fun W q1 q2 => read_W W q1 (Lib.hid rfl) q2 (Lib.hid rfl) most)
    (Lib.hid fun W q1 q2 => qread_W W q1 (Lib.hid rfl) q2 (Lib.hid rfl) h63 hlc most)
    _ (Lib.hid rfl) (Lib.hid rfl) (Lib.hid rfl) (good_resK s b).many (Lib.hid rfl) (Lib.hid rfl) (good_resR s most).many (Lib.hid rfl)
end Go.Proofs.YtomgifdnnfbpnaaDoor
