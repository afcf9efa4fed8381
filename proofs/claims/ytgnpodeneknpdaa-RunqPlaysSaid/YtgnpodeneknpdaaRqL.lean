/- Package runq: what a law's Play gives, its lengths by name. -/
import Derived.Test.YtgnpodeneknpdaaRqK
import Derived.Test.YtgnpodeneknpdaaRqO
namespace Go.Proofs.Ytgnpodeneknpdaa
open Go.RowKit

def PlayN (w : World) (n tl ll : Nat) (es : List Int) (s : StU) (e : Ending) (w' : World) : Prop :=
  ∃ E ta tc la lc, e = .returned (.tuple #[.slice (some ⟨E, 0, none⟩) n n, .slice ta tl tc, .slice la ll lc]) ∧ shI.At w' (some ⟨E, 0, none⟩) n es ∧ shI.At w' ta tc s.taken ∧ shI.At w' la lc (leftU s) ∧ Below w.heap.size w w'
theorem play_res {ops : List RuT} {n tl ll : Nat} (hm : Hid (ops.length = n)) (hn : n ≤ 10000000000000) (HW : Hid (∀ o ∈ ops, WfI o.i)) {es : List Int} {s : StU} (he : Hid (errsU newU ops = es)) (hs : Hid (runU newU ops = s)) (ht : Hid (s.taken.length = tl)) (hl : Hid (s.list.length = ll)) (ad : Option Addr) (cap : Nat) (X : World) (HX : Hid (shR.At X ad cap ops)) :
    Calls Try.prog 9 #[.slice ad n cap] X (PlayN X n tl ll es s) := by
  have h := play_ok X HX hm hn HW
  rw [he.out, hs.out] at h
  refine h.mono ?_
  rintro e w' ⟨E, ta, tc, la, lc, rfl, h1, h2, h3, h4⟩
  rw [ht.out, hl.out]
  exact ⟨E, ta, tc, la, lc, rfl, h1, h2, h3, h4⟩
theorem cnt_abs : ∀ {ops : List RuT} {s : StU}, -(ops.length : Int) ≤ cntU s ops ∧ cntU s ops ≤ (ops.length : Int)
  | [], _ => by simp [cntU]
  | o :: r, s => by
    have h := cnt_abs (ops := r) (s := stepU s o)
    rw [cntU, List.length_cons]
    have h3 : (if errU s o = 0 then if o.k = 1 ∨ o.k = 2 then 1 else if o.k = 4 then -1 else 0 else 0 : Int) ≤ 1 ∧ -1 ≤ (if errU s o = 0 then if o.k = 1 ∨ o.k = 2 then 1 else if o.k = 4 then -1 else 0 else 0 : Int) := by
      split
      · split
        · omega
        · split <;> omega
      · omega
    omega
theorem run_sizes {ops : List RuT} {s : StU} (h : runU newU ops = s) : s.taken.length + s.list.length ≤ ops.length := by rw [← h]; exact siz_nat
theorem left_len (s : StU) : (leftU s).length = s.list.length := by simp [leftU]
end Go.Proofs.Ytgnpodeneknpdaa
