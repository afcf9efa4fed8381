/- CoresRun: the walk. -/
import Derived.Test.YtningajaimbncaaCorX
import Derived.Test.YtningajaimbncaaCorU
namespace Go.Proofs.Ytningajaimbncaa
open Go.RowKit

set_option maxHeartbeats 1000000 in
theorem alike_cr : Alike 13 := by
  intro a1 a2 c1 c2 n l W hl hn h1 h2
  show Calls Try.prog 13 #[.slice a1 n c1, .slice a2 n c2] W _
  have HQ := Lib.hid (equalQ W (Lib.hid hl) (Lib.hid h1) (Lib.hid h2) (by omega))
  go_enter Try.func13, Try.ntmps13
  go_wp2_with (first
    | (go_at_call 14; (with_reducible refine HQ.out.mono ?_); rintro e w1 ⟨rfl, q, rfl⟩)
    | fail)
  go_ret
  exact ⟨rfl, q, rfl⟩
theorem row_le {l : List ThT} {c sl : Nat} (h : OkT l c sl) (t : Nat) : (rowN (thN l c sl) t).length ≤ 1000 := by
  rw [rowN_len]
  have := nod_len (run_nod h.lev t) fun k hk => (run_ready h.lev t k hk).1
  have h2 : (thN l c sl).m = l.length := rfl
  have := h.len
  omega
set_option maxHeartbeats 2000000 in
set_option maxRecDepth 100000 in
theorem corun_W {ad : Option Addr} {cap m : Nat} {l : List ThT} (c sl tk : Int) (w : World) (HA : Hid (shT.At w ad cap l)) (hm : Hid (l.length = m)) (hm9 : m ≤ 9223372036854775807) :
    Calls Try.prog 3 #[.int .i64 c, .int .i64 sl, .slice ad m cap, .int .i64 tk] w fun e w' => e = .returned (.bool true) ∧ Below w.heap.size w w' := by
  by_cases hok : wrongN c sl l = 0 ∧ 0 ≤ tk ∧ tk ≤ 2000
  · obtain ⟨hok, htk0, htk2⟩ := hok
    have HW := Lib.hid hok
    obtain ⟨c', sl', rfl, rfl, hO⟩ := wrong_ok hok
    obtain ⟨n, rfl⟩ : ∃ n : Nat, tk = n := ⟨tk.toNat, by omega⟩
    have HOK := Lib.hid hO
    have hn2 : n ≤ 2000 := by omega
    have HRL := Lib.hid (row_le hO)
    have p1 : ¬ (n : Int) < 0 := by omega
    have p2 : ¬ (2000 : Int) < (n : Int) := by omega
    have eg : ∀ args w, (callFunc 13 args).run Try.prog w = .ok (.enter 13 args) w := enters_of Try.func13 (by kernel_rfl) rfl
    clear hok htk0 htk2 hO
    go_enter Try.func3, Try.ntmps3
    go_wp2_with (first
      | (go_at_call 8; (with_reducible refine (run_ok n _ HA hm HOK hn2).mono ?_); rintro e w2 ⟨E, rfl, hR, hb2⟩; have HR := Lib.hid hR; have HB2 := Lib.hid hb2; have HA2 := Lib.hid (HA.out.step hb2); clear hR hb2)
      | (go_at_call 9; (with_reducible refine (nwrong_W _ _ _ HA2 hm hm9 0 HW).mono ?_); rintro e w3 ⟨rfl, hb3⟩; have HB3 := Lib.hid (pstep HB2.out hb3); have HR3 := Lib.hid (HR.out.step hb3); have HA3 := Lib.hid (HA2.out.step hb3); clear hb3)
      | (go_at_call 10; (with_reducible refine (wrong_W _ _ _ HA3 hm hm9 0 HW).mono ?_); rintro e w4 ⟨rfl, hb4⟩; have HB4 := Lib.hid (pstep HB3.out hb4); have HR4 := Lib.hid (HR3.out.step hb4); have HA4 := Lib.hid (HA3.out.step hb4); clear hb4)
      | (go_at_call 12; (with_reducible refine (nrun_W n _ HA4 hm HOK hn2).mono ?_); rintro e w5 ⟨ra, rc, rfl, hR5, hb5⟩; have HB5 := Lib.hid (pstep HB4.out hb5); have HR5 := Lib.hid (HR4.out.step hb5); have HN5 := Lib.hid hR5; clear hb5 hR5)
      | (go_at_call 11; (with_reducible refine (equalF_W 13 eg (Lib.hid alike_cr) _ HR5 HN5 (by omega) HRL).mono ?_); rintro e w6 ⟨rfl, hb6⟩; have HB6 := Lib.hid (pstep HB5.out hb6); clear hb6)
      | fail)
    go_ret
    exact ⟨rfl, HB6.out⟩
  · by_cases hw : wrongN c sl l = 0
    · have HX : Hid (wrongN c sl l = 2 ∨ wrongN c sl l = 0 ∧ ¬ (0 ≤ tk ∧ tk ≤ 2000)) := Lib.hid (Or.inr ⟨hw, fun q => hok ⟨hw, q⟩⟩)
      have HW := Lib.hid hw
      have hor : tk < 0 ∨ ¬ tk < 0 ∧ 2000 < tk := by
        by_cases h : tk < 0
        · exact Or.inl h
        · exact Or.inr ⟨h, by
            by_cases h2 : 2000 < tk
            · exact h2
            · exact absurd ⟨hw, by omega, by omega⟩ hok⟩
      clear hok hw
      rcases hor with hlt | ⟨hnl, hgt⟩
      all_goals
        go_enter Try.func3, Try.ntmps3
        go_wp2_with (first
          | (go_at_call 8; (with_reducible refine (run_bad c sl tk _ HA hm hm9 HX).mono ?_); rintro e w2 ⟨rfl, hb2⟩; have HB2 := Lib.hid hb2; have HA2 := Lib.hid (HA.out.step hb2); clear hb2)
          | (go_at_call 9; (with_reducible refine (nwrong_W _ _ _ HA2 hm hm9 0 HW).mono ?_); rintro e w3 ⟨rfl, hb3⟩; have HB3 := Lib.hid (pstep HB2.out hb3); have HA3 := Lib.hid (HA2.out.step hb3); clear hb3)
          | (go_at_call 10; (with_reducible refine (wrong_W _ _ _ HA3 hm hm9 0 HW).mono ?_); rintro e w4 ⟨rfl, hb4⟩; have HB4 := Lib.hid (pstep HB3.out hb4); clear hb4)
          | fail)
        go_ret
        exact ⟨rfl, HB4.out⟩
    · have hw2 : wrongN c sl l = 2 := by
        rcases wrong_two c sl l with h | h
        · exact absurd h hw
        · exact h
      have HX : Hid (wrongN c sl l = 2 ∨ wrongN c sl l = 0 ∧ ¬ (0 ≤ tk ∧ tk ≤ 2000)) := Lib.hid (Or.inl hw2)
      have HW := Lib.hid hw2
      clear hok hw hw2
      go_enter Try.func3, Try.ntmps3
      go_wp2_with (first
        | (go_at_call 8; (with_reducible refine (run_bad c sl tk _ HA hm hm9 HX).mono ?_); rintro e w2 ⟨rfl, hb2⟩; have HB2 := Lib.hid hb2; have HA2 := Lib.hid (HA.out.step hb2); clear hb2)
        | (go_at_call 9; (with_reducible refine (nwrong_W _ _ _ HA2 hm hm9 2 HW).mono ?_); rintro e w3 ⟨rfl, hb3⟩; have HB3 := Lib.hid (pstep HB2.out hb3); have HA3 := Lib.hid (HA2.out.step hb3); clear hb3)
        | (go_at_call 10; (with_reducible refine (wrong_W _ _ _ HA3 hm hm9 2 HW).mono ?_); rintro e w4 ⟨rfl, hb4⟩; have HB4 := Lib.hid (pstep HB3.out hb4); clear hb4)
        | fail)
      go_ret
      exact ⟨rfl, HB4.out⟩
theorem coresRun_walk (v v1 v2 v3 : Value) (w : World) (h : ArgInt w v) (h1 : ArgInt w v1) (h2 : ArgThs w v2) (h3 : ArgInt w v3) (u : lenOf v2 ≤ 5864062014634) : Calls Try.prog 3 #[v, v1, v2, v3] w fun e w' => e = .returned (.bool true) ∧ Below w.heap.size w w' := by
  obtain ⟨c, rfl⟩ := h
  obtain ⟨sl, rfl⟩ := h1
  obtain ⟨ad, cap, l, rfl, hA, _, _⟩ := h2
  obtain ⟨tk, rfl⟩ := h3
  have hu : l.length ≤ 5864062014634 := u
  exact corun_W c sl tk w (Lib.hid hA) (Lib.hid rfl) (by omega)
end Go.Proofs.Ytningajaimbncaa
