/- The walk of VectorPlays. -/
import Derived.Test.YtajecpfkaieieaaDoorVecDP
import Derived.Test.YtajecpfkaieieaaDoorVecO
namespace Go.Proofs.YtajecpfkaieieaaDoor
open Go.RowKit

set_option maxHeartbeats 1000000 in
set_option maxRecDepth 100000 in
theorem vplays_bad (w : World) (C N : Int) (v : Value) (h : C < 1 ∨ 8 < C ∨ N < 0 ∨ 2000 < N) :
    Calls Tryd.prog 3 #[.int .i64 C, .int .i64 N, v] w fun e w' => e = .returned (.bool true) ∧ Below w.heap.size w w' := by
  have HB := Lib.hid h
  have HE0 : ∀ w : World, shE.At w none 0 [] := fun w => Shape.At.nil w
  have HS0 : ∀ w : World, shS.At w none 0 [] := fun w => Shape.At.nil w
  have HHE := Lib.hid HE0
  have HHS := Lib.hid HS0
  clear h HE0 HS0
  go_enter Tryd.func3, Tryd.ntmps3
  go_wp2_with (first
    | (go_at_call 5; (with_reducible refine (play_bad C N _ _ HB.out).mono ?_); rintro e w1 ⟨rfl, hb⟩; have B1 := hb; clear hb)
    | (go_at_call 6; (with_reducible refine (dplay_bad C N _ _ HB.out).mono ?_); rintro e w2 ⟨rfl, hb⟩; have B2 := pstep B1 hb; clear hb)
    | (go_at_call 7; (with_reducible refine (equalE (n := 0) _ (Lib.hid rfl) (HHE.out _) (HHE.out _) (by decide)).mono ?_); rintro e w3 ⟨rfl, hb⟩; have B3 := pstep B2 hb; clear hb)
    | (go_at_call 8; (with_reducible refine (equalS (n := 0) _ (Lib.hid rfl) (HHS.out _) (HHS.out _) (by decide)).mono ?_); rintro e w4 ⟨rfl, hb⟩; have B4 := pstep B3 hb; clear hb)
    | fail)
  go_ret
  exact ⟨rfl, B4⟩
set_option maxHeartbeats 1000000 in
set_option maxRecDepth 100000 in
theorem vplays_main {ad : Option Addr} {cap m : Nat} {ops : List VopT} (w : World) (hT : Hid (Tab w)) (cores n : Nat) (h1 : 1 ≤ cores) (h8 : cores ≤ 8) (hn : n ≤ 2000) (HA : Hid (shO.At w ad cap ops)) (hm : Hid (ops.length = m)) (hm2 : m ≤ 5864062014805) (l : List SlotT) (es : List Int) (HR : Hid (runV cores n ops = (l, es))) :
    Calls Tryd.prog 3 #[.int .i64 cores, .int .i64 n, .slice ad m cap] w fun e w' => e = .returned (.bool true) ∧ Below w.heap.size w w' := by
  have hg := run_good cores n ops
  rw [HR.out] at hg
  simp only at hg
  have HL : Hid (l.length = n) := Lib.hid hg.2.1
  have HEs : Hid (es.length = m) := Lib.hid (hg.2.2.trans hm.out)
  clear hg
  go_enter Tryd.func3, Tryd.ntmps3
  go_wp2_with (first
    | (go_at_call 5; (with_reducible refine (play_ok _ hT cores n h1 h8 hn HA hm hm2 l es HR).mono ?_); rintro e w1 ⟨ea, ec, sa, sc, rfl, EA, SA, hb⟩; have B1 := hb; have HA1 := Lib.hid (HA.out.step hb); have HE1 := Lib.hid EA; have HS1 := Lib.hid SA; clear hb EA SA)
    | (go_at_call 6; (with_reducible refine (dplay_ok _ cores n h1 h8 hn HA1 hm hm2 l es HR).mono ?_); rintro e w2 ⟨eb, ed, sb, sd, rfl, EA, SA, hb⟩; have B2 := pstep B1 hb; have HE2 := Lib.hid (HE1.out.step hb); have HS2 := Lib.hid (HS1.out.step hb); have HE3 := Lib.hid EA; have HS3 := Lib.hid SA; clear hb EA SA)
    | (go_at_call 7; (with_reducible refine (equalE (n := m) _ HEs HE2.out HE3.out (by omega)).mono ?_); rintro e w3 ⟨rfl, hb⟩; have B3 := pstep B2 hb; have HS4 := Lib.hid (HS2.out.step hb); have HS5 := Lib.hid (HS3.out.step hb); clear hb)
    | (go_at_call 8; (with_reducible refine (equalS (n := n) _ HL HS4.out HS5.out (by omega)).mono ?_); rintro e w4 ⟨rfl, hb⟩; have B4 := pstep B3 hb; clear hb)
    | fail)
  go_ret
  exact ⟨rfl, B4⟩
theorem vectorPlays_walk (C N : Int) (v : Value) (W : World) (hv : ArgV W v) (hl : lenOf v ≤ 5864062014805) (hT : Tab W) :
    Calls Tryd.prog 3 #[.int .i64 C, .int .i64 N, v] W fun e w' => e = .returned (.bool true) ∧ Below W.heap.size W w' := by
  by_cases hb : C < 1 ∨ 8 < C ∨ N < 0 ∨ 2000 < N
  · exact vplays_bad W C N v hb
  obtain ⟨ad, cap, ops, rfl, h⟩ := hv
  obtain ⟨c, rfl⟩ : ∃ c : Nat, C = c := ⟨C.toNat, by omega⟩
  obtain ⟨n, rfl⟩ : ∃ n : Nat, N = n := ⟨N.toNat, by omega⟩
  obtain ⟨⟨l, es⟩, hr⟩ : ∃ r, runV c n ops = r := ⟨_, rfl⟩
  exact vplays_main W (Lib.hid hT) c n (by omega) (by omega) (by omega) (Lib.hid h) (Lib.hid rfl) hl l es (Lib.hid hr)
end Go.Proofs.YtajecpfkaieieaaDoor
