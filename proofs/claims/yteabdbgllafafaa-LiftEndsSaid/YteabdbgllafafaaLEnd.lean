/- LiftEnds: the walk. -/
import Derived.Test.YteabdbgllafafaaLftJ
import Derived.Test.YteabdbgllafafaaLftH
import Derived.Test.YteabdbgllafafaaLftO
import Derived.Lib.MinMax
namespace Go.Proofs.Yteabdbgllafafaa
open Go.RowKit

set_option maxHeartbeats 4000000 in
set_option maxRecDepth 100000 in
theorem ends_no {ad : Option Addr} {cap n : Nat} {l : List Int} (head : Int) (w : World) (HA : Hid (shI.At w ad cap l)) (hn : Hid (l.length = n)) (QN : Hid (¬ (okH head ∧ okL l))) :
    Calls Try.prog 7 #[.int .i64 head, .slice ad n cap] w fun e w' => e = .returned (.bool true) ∧ Below w.heap.size w w' := by
  have HN0 : Hid (([] : List Int).length = 0) := Lib.hid rfl
  obtain ⟨V, hV⟩ : ∃ V, wayV head [] = V := ⟨_, rfl⟩
  obtain ⟨er, her⟩ : ∃ er, errH head [] = er := ⟨_, rfl⟩
  have HV := Lib.hid hV
  have HER := Lib.hid her
  clear hV her
  go_enter Try.func7, Try.ntmps7
  go_wp2_with (first
    | (go_at_call 21; (with_reducible refine (alive19_N _).mono ?_); rintro e w1 ⟨rfl, b1⟩; have B1 := Lib.hid b1; have H1 := Lib.hid (HA.out.step b1); clear b1)
    | (go_at_call 11; (with_reducible refine (short_X head _ H1 hn QN).mono ?_); rintro e w2 ⟨a2, c2, rfl, r2, b2⟩; have R2 := Lib.hid r2; have B2 := Lib.hid (pstep B1.out b2); clear r2 b2)
    | (go_at_call 9; (with_reducible refine (way_W head _ R2 HN0 V HV er HER).mono ?_); rintro e w3 ⟨rfl, rfl⟩)
    | fail)
  go_ret
  exact ⟨rfl, B2.out⟩
set_option maxHeartbeats 4000000 in
set_option maxRecDepth 100000 in
theorem ends_ok {ad : Option Addr} {cap n : Nat} {l : List Int} (head : Int) (w : World) (HA : Hid (shI.At w ad cap l)) (hn : Hid (l.length = n)) (QH : Hid (okH head)) (QL : Hid (okL l)) :
    Calls Try.prog 7 #[.int .i64 head, .slice ad n cap] w fun e w' => e = .returned (.bool true) ∧ Below w.heap.size w w' := by
  have h4 : n ≤ 400 := by rw [← hn.out]; exact QL.out.1
  have hn63 : n ≤ 9223372036854775807 := by omega
  have QS : okL (shortL head l) := ⟨by rw [short_len]; exact QL.out.1, fun x hx => QL.out.2 x ((short_is_perm head l).mem_iff.1 hx)⟩
  have HSN : Hid ((shortL head l).length = n) := Lib.hid ((short_len head l).trans hn.out)
  obtain ⟨V, hV⟩ : ∃ V, wayS head (shortL head l) = V := ⟨_, rfl⟩
  have HV : Hid (wayV head (shortL head l) = V) := Lib.hid ((if_pos ⟨QH.out, QS⟩).trans hV)
  have HER : Hid (errH head (shortL head l) = 0) := Lib.hid (if_pos ⟨QH.out, QS⟩)
  have HWV := Lib.hid hV
  clear hV QS
  by_cases h0 : n = 0
  · subst h0
    go_enter Try.func7, Try.ntmps7
    go_wp2_with (first
          | (go_at_call 21; (with_reducible refine (alive19_N _).mono ?_); rintro e w1 ⟨rfl, b1⟩; have B1 := Lib.hid b1; have H1 := Lib.hid (HA.out.step b1); clear b1)
          | (go_at_call 11; (with_reducible refine (short_N head _ H1 hn QH QL).mono ?_); rintro e w2 ⟨a2, c2, rfl, r2, b2⟩; have R2 := Lib.hid r2; have B2 := Lib.hid (pstep B1.out b2); have H2 := Lib.hid (H1.out.step b2); clear r2 b2)
          | (go_at_call 9; (with_reducible refine (way_W head _ R2 HSN V HV 0 HER).mono ?_); rintro e w3 ⟨rfl, rfl⟩)
          | fail)
    go_ret
    exact ⟨rfl, B2.out⟩
  · have h0d : decide ((n : Int) = 0) = false := decide_eq_false (by omega)
    have hl : ¬ l = [] := fun e => h0 (by rw [← hn.out, e]; rfl)
    obtain ⟨mx, mn, m1, m2, m3, m4⟩ := ends_there hl
    have M1 := Lib.hid m1
    have M2 := Lib.hid m2
    have M3 := Lib.hid m3
    have M4 := Lib.hid m4
    have HSI := Lib.hid (short_is (h := head) m1 m2 m3 m4)
    obtain ⟨hx0, hx1⟩ := QL.out.2 mx m1
    obtain ⟨hy0, hy1⟩ := QL.out.2 mn m2
    obtain ⟨hh0, hh1⟩ := QH.out
    by_cases hlo : head < mn
    · have d1 : decide (head < mn) = true := decide_eq_true hlo
      clear hlo m1 m2 m3 m4 hl
      go_enter Try.func7, Try.ntmps7
      go_wp2_with (first
          | (go_at_call 21; (with_reducible refine (alive19_N _).mono ?_); rintro e w1 ⟨rfl, b1⟩; have B1 := Lib.hid b1; have H1 := Lib.hid (HA.out.step b1); clear b1)
          | (go_at_call 11; (with_reducible refine (short_N head _ H1 hn QH QL).mono ?_); rintro e w2 ⟨a2, c2, rfl, r2, b2⟩; have R2 := Lib.hid r2; have B2 := Lib.hid (pstep B1.out b2); have H2 := Lib.hid (H1.out.step b2); clear r2 b2)
          | (go_at_call 9; (with_reducible refine (way_W head _ R2 HSN V HV 0 HER).mono ?_); rintro e w3 ⟨rfl, rfl⟩)
          | (go_at_call 26; (with_reducible refine (min_I _ H2 hn hn63 mn M2 M4).mono ?_); rintro e w5 ⟨rfl, rfl⟩)
          | fail)
      go_ret
      exact ⟨rfl, B2.out⟩
    · have d1 : decide (head < mn) = false := decide_eq_false hlo
      by_cases hhi : head > mx
      · have d2 : decide (head > mx) = true := decide_eq_true hhi
        clear hlo hhi m1 m2 m3 m4 hl
        go_enter Try.func7, Try.ntmps7
        go_wp2_with (first
          | (go_at_call 21; (with_reducible refine (alive19_N _).mono ?_); rintro e w1 ⟨rfl, b1⟩; have B1 := Lib.hid b1; have H1 := Lib.hid (HA.out.step b1); clear b1)
          | (go_at_call 11; (with_reducible refine (short_N head _ H1 hn QH QL).mono ?_); rintro e w2 ⟨a2, c2, rfl, r2, b2⟩; have R2 := Lib.hid r2; have B2 := Lib.hid (pstep B1.out b2); have H2 := Lib.hid (H1.out.step b2); clear r2 b2)
          | (go_at_call 9; (with_reducible refine (way_W head _ R2 HSN V HV 0 HER).mono ?_); rintro e w3 ⟨rfl, rfl⟩)
          | (go_at_call 26; (with_reducible refine (min_I _ H2 hn hn63 mn M2 M4).mono ?_); rintro e w5 ⟨rfl, rfl⟩)
          | (go_at_call 27; (with_reducible refine (max_I _ H2 hn hn63 mx M1 M3).mono ?_); rintro e w6 ⟨rfl, rfl⟩)
          | fail)
        go_ret
        exact ⟨rfl, B2.out⟩
      · have d2 : decide (head > mx) = false := decide_eq_false hhi
        have hend := ends_all (h := head) m1 m2 m3 m4 (by omega) (by omega)
        rw [← HSI.out, HWV.out] at hend
        obtain ⟨lo, hlo'⟩ : ∃ lo, head - mn = lo := ⟨_, rfl⟩
        obtain ⟨hi, hhi'⟩ : ∃ hi, mx - head = hi := ⟨_, rfl⟩
        have x1 : IntKind.i64.wrap (head - mn) = lo := by rw [IntKind.wrap_i64]; omega
        have x2 : IntKind.i64.wrap (mx - head) = hi := by rw [IntKind.wrap_i64]; omega
        rw [hlo', hhi'] at hend
        have x3 : IntKind.i64.wrap (lo + hi) = lo + hi := by rw [IntKind.wrap_i64]; omega
        have x4 : IntKind.i64.wrap (lo + hi + min lo hi) = V := by rw [IntKind.wrap_i64, hend]; omega
        have hee : (V == V) = true := by simp
        clear hlo hhi m1 m2 m3 m4 hl hend hlo' hhi'
        go_enter Try.func7, Try.ntmps7
        go_wp2_with (first
          | (go_at_call 21; (with_reducible refine (alive19_N _).mono ?_); rintro e w1 ⟨rfl, b1⟩; have B1 := Lib.hid b1; have H1 := Lib.hid (HA.out.step b1); clear b1)
          | (go_at_call 11; (with_reducible refine (short_N head _ H1 hn QH QL).mono ?_); rintro e w2 ⟨a2, c2, rfl, r2, b2⟩; have R2 := Lib.hid r2; have B2 := Lib.hid (pstep B1.out b2); have H2 := Lib.hid (H1.out.step b2); clear r2 b2)
          | (go_at_call 9; (with_reducible refine (way_W head _ R2 HSN V HV 0 HER).mono ?_); rintro e w3 ⟨rfl, rfl⟩)
          | (go_at_call 26; (with_reducible refine (min_I _ H2 hn hn63 mn M2 M4).mono ?_); rintro e w5 ⟨rfl, rfl⟩)
          | (go_at_call 27; (with_reducible refine (max_I _ H2 hn hn63 mx M1 M3).mono ?_); rintro e w6 ⟨rfl, rfl⟩)
          | fail)
        go_ret
        exact ⟨rfl, B2.out⟩
theorem liftEnds_walk (v0 v1 : Value) (w : World) (g0 : ArgInt w v0) (g1 : ArgNums w v1) :
    Calls Try.prog 7 #[v0, v1] w fun e w' => e = .returned (.bool true) ∧ Below w.heap.size w w' := by
  obtain ⟨head, rfl⟩ := g0
  obtain ⟨ad, cap, l, rfl, h1, _⟩ := g1
  by_cases q : okH head ∧ okL l
  · exact ends_ok head w (Lib.hid h1) (Lib.hid rfl) (Lib.hid q.1) (Lib.hid q.2)
  · exact ends_no head w (Lib.hid h1) (Lib.hid rfl) (Lib.hid q)
end Go.Proofs.Yteabdbgllafafaa
