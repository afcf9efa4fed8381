/- LiftMerges: the walk. -/
import Derived.Test.YteabdbgllafafaaLftG
import Derived.Test.YteabdbgllafafaaLftO
namespace Go.Proofs.Yteabdbgllafafaa
open Go.RowKit

set_option maxHeartbeats 2000000 in
set_option maxRecDepth 100000 in
theorem liftMerges_W {ad : Option Addr} {cap n : Nat} {l : List SpS} (w : World) (HA : Hid (shS.At w ad cap l)) (hn : Hid (l.length = n)) (hnb : n ≤ 9223372036854775807) :
    Calls Try.prog 4 #[.slice ad n cap] w fun e w' => e = .returned (.bool true) ∧ Below w.heap.size w w' := by
  obtain ⟨er, her⟩ : ∃ er, errM l = er := ⟨_, rfl⟩
  obtain ⟨k, hk⟩ : ∃ k, (mrgV l).length = k := ⟨_, rfl⟩
  have HE := Lib.hid her
  have HK := Lib.hid hk
  have hk4 : k ≤ 9223372036854775807 := by
    rw [← hk]
    rcases errM_cases l with ⟨_, q2, q3⟩ | ⟨_, q2, _⟩
    · rw [q2]
      have := can_len q3.2
      have := q3.1
      omega
    · rw [q2]
      exact Nat.zero_le _
  have hee : (er == er) = true := by simp
  clear her hk
  go_enter Try.func4, Try.ntmps4
  go_wp2_with (first
    | (go_at_call 18; (with_reducible refine (merge_W _ HA hn hnb er HE k HK).mono ?_); rintro e w1 ⟨ra, rc, rfl, a1, b1⟩; have A1 := Lib.hid a1; have B1 := Lib.hid b1; have H1 := Lib.hid (HA.out.step b1); clear a1 b1)
    | (go_at_call 19; (with_reducible refine (smerge_W _ H1 hn er HE k HK).mono ?_); rintro e w2 ⟨sa, sc, rfl, a2, b2⟩; have A2 := Lib.hid a2; have B2 := Lib.hid (pstep B1.out b2); have R2 := Lib.hid (A1.out.step b2); clear a2 b2)
    | (go_at_call 20; (with_reducible refine (equalS _ HK R2 A2 hk4).mono ?_); rintro e w3 ⟨rfl, b3⟩; have B3 := Lib.hid (pstep B2.out b3); clear b3)
    | fail)
  go_ret
  exact ⟨rfl, B3.out⟩
theorem liftMerges_walk (v0 : Value) (w : World) (g0 : ArgSpans w v0) :
    Calls Try.prog 4 #[v0] w fun e w' => e = .returned (.bool true) ∧ Below w.heap.size w w' := by
  obtain ⟨ad, cap, l, rfl, h1, h2, _⟩ := g0
  exact liftMerges_W w (Lib.hid h1) (Lib.hid rfl) h2
end Go.Proofs.Yteabdbgllafafaa
