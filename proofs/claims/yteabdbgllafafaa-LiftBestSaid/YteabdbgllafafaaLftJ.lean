/- Package lift: Sweep and Short where nothing is wrong, and where something is. -/
import Derived.Test.YteabdbgllafafaaLftE
namespace Go.Proofs.Yteabdbgllafafaa
open Go.RowKit

theorem sweep_N {ad : Option Addr} {cap n : Nat} {l : List Int} (head : Int) (w : World) (HA : Hid (shI.At w ad cap l)) (hn : Hid (l.length = n)) (QH : Hid (okH head)) (QL : Hid (okL l)) :
    Calls Try.prog 10 #[.int .i64 head, .slice ad n cap] w (LsOut w n (upR head l ++ dnR head l) 0) := by
  have e1 : sweepV head l = upR head l ++ dnR head l := if_pos ⟨QH.out, QL.out⟩
  have h := sweep_W head w HA hn 0 (Lib.hid (if_pos ⟨QH.out, QL.out⟩)) n (Lib.hid (by rw [e1]; exact (sweep_len head l).trans hn.out))
  rw [e1] at h
  exact h
theorem short_N {ad : Option Addr} {cap n : Nat} {l : List Int} (head : Int) (w : World) (HA : Hid (shI.At w ad cap l)) (hn : Hid (l.length = n)) (QH : Hid (okH head)) (QL : Hid (okL l)) :
    Calls Try.prog 11 #[.int .i64 head, .slice ad n cap] w (LsOut w n (shortL head l) 0) := by
  have e2 : shortV head l = shortL head l := if_pos ⟨QH.out, QL.out⟩
  have h := short_W head w HA hn 0 (Lib.hid (if_pos ⟨QH.out, QL.out⟩)) n (Lib.hid (by rw [e2]; exact (short_len head l).trans hn.out))
  rw [e2] at h
  exact h
theorem sweep_X {ad : Option Addr} {cap n : Nat} {l : List Int} (head : Int) (w : World) (HA : Hid (shI.At w ad cap l)) (hn : Hid (l.length = n)) (Q : Hid (¬ (okH head ∧ okL l))) :
    Calls Try.prog 10 #[.int .i64 head, .slice ad n cap] w (LsOut w 0 [] 2) := by
  have e1 : sweepV head l = [] := if_neg Q.out
  have h := sweep_W head w HA hn 2 (Lib.hid (if_neg Q.out)) 0 (Lib.hid (by rw [e1]; rfl))
  rw [e1] at h
  exact h
theorem short_X {ad : Option Addr} {cap n : Nat} {l : List Int} (head : Int) (w : World) (HA : Hid (shI.At w ad cap l)) (hn : Hid (l.length = n)) (Q : Hid (¬ (okH head ∧ okL l))) :
    Calls Try.prog 11 #[.int .i64 head, .slice ad n cap] w (LsOut w 0 [] 2) := by
  have e2 : shortV head l = [] := if_neg Q.out
  have h := short_W head w HA hn 2 (Lib.hid (if_neg Q.out)) 0 (Lib.hid (by rw [e2]; rfl))
  rw [e2] at h
  exact h
end Go.Proofs.Yteabdbgllafafaa
