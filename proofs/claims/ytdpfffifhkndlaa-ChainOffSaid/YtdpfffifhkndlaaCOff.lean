/- The walk of ChainOff. -/
import Derived.Test.YtdpfffifhkndlaaChnH
import Derived.Test.YtdpfffifhkndlaaChnO
namespace Go.Proofs.Ytdpfffifhkndlaa
open Go.RowKit

set_option maxHeartbeats 2000000 in
set_option maxRecDepth 100000 in
theorem off_form {ad : Option Addr} {cap n : Nat} {l : List HdT} (times : Int) (w : World) (HA : Hid (shH.At w ad cap l)) (hm : Hid (l.length = n)) (hn : n ≤ 9223372036854775807) (hr : Hid (decide (RtI l) = false)) :
    Calls Try.prog 6 #[.slice ad n cap, .int .i64 times] w fun e w' => e = .returned (.bool true) ∧ Below w.heap.size w w' := by
  go_enter Try.func6, Try.ntmps6
  go_wp2_with (first
    | (go_at_call 16; (with_reducible refine (alive9_N _).mono ?_); rintro e w1 ⟨rfl, hb⟩; have B1 := Lib.hid hb; have HA1 := Lib.hid (HA.out.step hb); clear hb)
    | (go_at_call 14; (with_reducible refine (play_form times _ HA1 hm hn hr).mono ?_); rintro e w2 ⟨rfl, hb⟩; have B2 := Lib.hid (pstep (pstep B1.out hb) (below_alloc w2 (.cells #[.int .i64 0, .int .i64 0, .bool false] 24))); clear hb)
    | fail)
  go_ret
  exact ⟨rfl, B2.out⟩
set_option maxHeartbeats 2000000 in
set_option maxRecDepth 100000 in
theorem off_range {ad : Option Addr} {cap n : Nat} {l : List HdT} (times : Int) (w : World) (HA : Hid (shH.At w ad cap l)) (hm : Hid (l.length = n)) (hn : n ≤ 9223372036854775807) (hr : Hid (decide (RtI l) = true)) (ht : Hid (decide (0 ≤ times ∧ times ≤ 400) = false)) :
    Calls Try.prog 6 #[.slice ad n cap, .int .i64 times] w fun e w' => e = .returned (.bool true) ∧ Below w.heap.size w w' := by
  go_enter Try.func6, Try.ntmps6
  go_wp2_with (first
    | (go_at_call 16; (with_reducible refine (alive9_N _).mono ?_); rintro e w1 ⟨rfl, hb⟩; have B1 := Lib.hid hb; have HA1 := Lib.hid (HA.out.step hb); clear hb)
    | (go_at_call 14; (with_reducible refine (play_range times _ HA1 hm hn hr ht).mono ?_); rintro e w2 ⟨rfl, hb⟩; have B2 := Lib.hid (pstep (pstep B1.out hb) (below_alloc w2 (.cells #[.int .i64 0, .int .i64 0, .bool false] 24))); clear hb)
    | fail)
  go_ret
  exact ⟨rfl, B2.out⟩
theorem off_left {l : List HdT} (hr : RtI l) (t : Nat) : (leftI (l.map (decN t)) = 0 ↔ mostI (l.map (decN t)) = 0) ∧ 0 ≤ leftI (l.map (decN t)) :=
  left_zero fun h hh => ((dec_rt hr t).2 h hh).2.1
theorem play_five {ad : Option Addr} {cap n : Nat} {l : List HdT} (w : World) (HA : Hid (shH.At w ad cap l)) (hm : Hid (l.length = n)) (hr : Hid (decide (RtI l) = true)) (ct : Nat) (HC : Hid (cameI l 5 = ct)) :
    Calls Try.prog 14 #[.slice ad n cap, .int .i64 5] w (PlayOut w n l ct) := play_ok 5 w HA hm hr (by decide) ct HC
theorem off_again {l : List HdT} (h0 : mostI l = 0) : (talI l (cameI l 5)).off = true := (came_off l 5).2 (by rw [h0]; decide)
set_option maxHeartbeats 2000000 in
set_option maxRecDepth 100000 in
theorem off_yes {ad : Option Addr} {cap n : Nat} {l : List HdT} (T : Nat) (w : World) (HA : Hid (shH.At w ad cap l)) (hm : Hid (l.length = n)) (hr : Hid (decide (RtI l) = true)) (hT : T ≤ 400) (ho : (talI l (cameI l T)).off = true) :
    Calls Try.prog 6 #[.slice ad n cap, .int .i64 T] w fun e w' => e = .returned (.bool true) ∧ Below w.heap.size w w' := by
  have HRT := Lib.hid (of_decide_eq_true hr.out)
  have hn16 : n ≤ 16 := by rw [← hm.out]; exact HRT.out.1
  obtain ⟨ct, hct⟩ : ∃ ct, cameI l T = ct := ⟨_, rfl⟩
  have HC := Lib.hid hct
  have HRT2 : Hid (RtI (l.map (decN ct))) := Lib.hid (dec_rt HRT.out ct)
  have HML : Hid ((l.map (decN ct)).length = n) := Lib.hid (by rw [List.length_map]; exact hm.out)
  obtain ⟨q, hq⟩ : ∃ q, (waksI l ct).length = q := ⟨_, rfl⟩
  have HQ := Lib.hid hq
  obtain ⟨nb, hnb⟩ : ∃ nb, (talI l ct).nobody = nb := ⟨_, rfl⟩
  have HNB := Lib.hid hnb
  obtain ⟨v, hv⟩ : ∃ v, leftI (l.map (decN ct)) = v := ⟨_, rfl⟩
  have HV := Lib.hid hv
  have hcc : (talI l ct).came = (ct : Int) := rfl
  have HCC := Lib.hid hcc
  rw [hct] at ho
  have HO := Lib.hid ho
  have h5 := came_nobody (l := l) (times := T) (by rw [hct]; exact ho)
  rw [hct, hnb] at h5
  obtain rfl : nb = 5 := h5.1
  obtain rfl : v = 0 := by rw [← hv]; exact (off_left HRT.out ct).1.2 h5.2
  clear hct hq hnb hv hcc ho h5
  go_enter Try.func6, Try.ntmps6
  go_wp2_with (first
    | (go_at_call 16; (with_reducible refine (alive9_N _).mono ?_); rintro e w1 ⟨rfl, hb⟩; have B1 := Lib.hid hb; have HA1 := Lib.hid (HA.out.step hb); clear hb)
    | (go_at_call 14; (with_reducible refine (play_ok T _ HA1 hm hr hT ct HC).mono ?_); rintro e w2 ⟨ra, rc, wa, wc, he, hA, hW, hb⟩; rw [HQ.out, HNB.out, HO.out, HCC.out] at he; subst he; have B2 := Lib.hid (pstep (pstep B1.out hb) (below_alloc w2 (.cells #[.int .i64 (ct : Int), .int .i64 5, .bool true] 24))); have T2 := Lib.hid (heap_alloc_new w2 (.cells #[.int .i64 (ct : Int), .int .i64 5, .bool true] 24)); have HA2 := Lib.hid (hA.step (below_alloc w2 (.cells #[.int .i64 (ct : Int), .int .i64 5, .bool true] 24))); clear hb hA hW)
    | (go_at_call 18; (with_reducible refine (left_N _ HA2 HML HRT2 0 HV).mono ?_); rintro e w3 ⟨rfl, hb⟩; have B3 := Lib.hid (pstep B2.out hb); have C3 := trio_at (heap_step T2.out hb); clear hb)
    | fail)
  go_ret
  exact ⟨rfl, B3.out⟩
set_option maxHeartbeats 2000000 in
set_option maxRecDepth 100000 in
theorem off_no {ad : Option Addr} {cap n : Nat} {l : List HdT} (T : Nat) (w : World) (HA : Hid (shH.At w ad cap l)) (hm : Hid (l.length = n)) (hr : Hid (decide (RtI l) = true)) (hT : T ≤ 400) (ho : (talI l (cameI l T)).off = false) :
    Calls Try.prog 6 #[.slice ad n cap, .int .i64 T] w fun e w' => e = .returned (.bool true) ∧ Below w.heap.size w w' := by
  have HRT := Lib.hid (of_decide_eq_true hr.out)
  have hn16 : n ≤ 16 := by rw [← hm.out]; exact HRT.out.1
  obtain ⟨ct, hct⟩ : ∃ ct, cameI l T = ct := ⟨_, rfl⟩
  have HC := Lib.hid hct
  have HRT2 : Hid (RtI (l.map (decN ct))) := Lib.hid (dec_rt HRT.out ct)
  have HML : Hid ((l.map (decN ct)).length = n) := Lib.hid (by rw [List.length_map]; exact hm.out)
  obtain ⟨q, hq⟩ : ∃ q, (waksI l ct).length = q := ⟨_, rfl⟩
  have HQ := Lib.hid hq
  obtain ⟨nb, hnb⟩ : ∃ nb, (talI l ct).nobody = nb := ⟨_, rfl⟩
  have HNB := Lib.hid hnb
  obtain ⟨v, hv⟩ : ∃ v, leftI (l.map (decN ct)) = v := ⟨_, rfl⟩
  have HV := Lib.hid hv
  have hcc : (talI l ct).came = (ct : Int) := rfl
  have HCC := Lib.hid hcc
  obtain rfl : ct = T := by rw [← hct]; exact came_on ho
  rw [hct] at ho
  have HO := Lib.hid ho
  obtain ⟨c2, hc2⟩ : ∃ c2, cameI (l.map (decN ct)) 5 = c2 := ⟨_, rfl⟩
  have HC2 := Lib.hid hc2
  have HR2 : Hid (decide (RtI (l.map (decN ct))) = true) := Lib.hid (decide_eq_true HRT2.out)
  obtain ⟨o2, ho2⟩ : ∃ o2, (talI (l.map (decN ct)) c2).off = o2 := ⟨_, rfl⟩
  have HO2 := Lib.hid ho2
  obtain ⟨n2, hn2⟩ : ∃ n2, (talI (l.map (decN ct)) c2).nobody = n2 := ⟨_, rfl⟩
  have HN2 := Lib.hid hn2
  obtain ⟨q2, hq2⟩ : ∃ q2, (waksI (l.map (decN ct)) c2).length = q2 := ⟨_, rfl⟩
  have HQ2 := Lib.hid hq2
  have hcc2 : (talI (l.map (decN ct)) c2).came = (c2 : Int) := rfl
  have HCC2 := Lib.hid hcc2
  have hv0 : 0 ≤ v := by rw [← hv]; exact (off_left HRT.out ct).2
  have hvo : 0 < v ∨ (v = 0 ∧ o2 = true) := by
    by_cases h : 0 < v
    · exact Or.inl h
    · have h0 : v = 0 := by omega
      refine Or.inr ⟨h0, ?_⟩
      rw [← ho2, ← hc2]
      exact off_again ((off_left HRT.out ct).1.1 (by rw [hv]; exact h0))
  clear hct hq hnb hv hcc ho hc2 ho2 hn2 hq2 hcc2
  rcases hvo with hp | ⟨rfl, rfl⟩
  · have hpd : decide (0 < v) = true := decide_eq_true hp
    go_enter Try.func6, Try.ntmps6
    go_wp2_with (first
      | (go_at_call 16; (with_reducible refine (alive9_N _).mono ?_); rintro e w1 ⟨rfl, hb⟩; have B1 := Lib.hid hb; have HA1 := Lib.hid (HA.out.step hb); clear hb)
      | (go_at_call 14; (with_reducible refine (play_ok ct _ HA1 hm hr hT ct HC).mono ?_); rintro e w2 ⟨ra, rc, wa, wc, he, hA, hW, hb⟩; rw [HQ.out, HNB.out, HO.out, HCC.out] at he; subst he; have B2 := Lib.hid (pstep (pstep B1.out hb) (below_alloc w2 (.cells #[.int .i64 (ct : Int), .int .i64 nb, .bool false] 24))); have T2 := Lib.hid (heap_alloc_new w2 (.cells #[.int .i64 (ct : Int), .int .i64 nb, .bool false] 24)); have HA2 := Lib.hid (hA.step (below_alloc w2 (.cells #[.int .i64 (ct : Int), .int .i64 nb, .bool false] 24))); clear hb hA hW)
      | (go_at_call 14; (with_reducible refine (play_five _ HA2 HML HR2 c2 HC2).mono ?_); rintro e w3 ⟨ra3, rc3, wa3, wc3, he, hA, hW, hb⟩; rw [HQ2.out, HN2.out, HO2.out, HCC2.out] at he; subst he; have B3 := Lib.hid (pstep (pstep B2.out hb) (below_alloc w3 (.cells #[.int .i64 (c2 : Int), .int .i64 n2, .bool o2] 24))); have T3 := Lib.hid (heap_alloc_new w3 (.cells #[.int .i64 (c2 : Int), .int .i64 n2, .bool o2] 24)); have C3 := trio_at (heap_step (heap_step T2.out hb) (below_alloc w3 (.cells #[.int .i64 (c2 : Int), .int .i64 n2, .bool o2] 24))); have HA3 := Lib.hid ((HA2.out.step hb).step (below_alloc w3 (.cells #[.int .i64 (c2 : Int), .int .i64 n2, .bool o2] 24))); clear hb hA hW)
      | (go_at_call 18; (with_reducible refine (left_N _ HA3 HML HRT2 v HV).mono ?_); rintro e w4 ⟨rfl, hb⟩; have B4 := Lib.hid (pstep B3.out hb); have C4 := trio_at (heap_step T3.out hb); clear hb)
      | fail)
    go_ret
    exact ⟨rfl, B4.out⟩
  · go_enter Try.func6, Try.ntmps6
    go_wp2_with (first
      | (go_at_call 16; (with_reducible refine (alive9_N _).mono ?_); rintro e w1 ⟨rfl, hb⟩; have B1 := Lib.hid hb; have HA1 := Lib.hid (HA.out.step hb); clear hb)
      | (go_at_call 14; (with_reducible refine (play_ok ct _ HA1 hm hr hT ct HC).mono ?_); rintro e w2 ⟨ra, rc, wa, wc, he, hA, hW, hb⟩; rw [HQ.out, HNB.out, HO.out, HCC.out] at he; subst he; have B2 := Lib.hid (pstep (pstep B1.out hb) (below_alloc w2 (.cells #[.int .i64 (ct : Int), .int .i64 nb, .bool false] 24))); have T2 := Lib.hid (heap_alloc_new w2 (.cells #[.int .i64 (ct : Int), .int .i64 nb, .bool false] 24)); have HA2 := Lib.hid (hA.step (below_alloc w2 (.cells #[.int .i64 (ct : Int), .int .i64 nb, .bool false] 24))); clear hb hA hW)
      | (go_at_call 14; (with_reducible refine (play_five _ HA2 HML HR2 c2 HC2).mono ?_); rintro e w3 ⟨ra3, rc3, wa3, wc3, he, hA, hW, hb⟩; rw [HQ2.out, HN2.out, HO2.out, HCC2.out] at he; subst he; have B3 := Lib.hid (pstep (pstep B2.out hb) (below_alloc w3 (.cells #[.int .i64 (c2 : Int), .int .i64 n2, .bool true] 24))); have T3 := Lib.hid (heap_alloc_new w3 (.cells #[.int .i64 (c2 : Int), .int .i64 n2, .bool true] 24)); have C3 := trio_at (heap_step (heap_step T2.out hb) (below_alloc w3 (.cells #[.int .i64 (c2 : Int), .int .i64 n2, .bool true] 24))); have HA3 := Lib.hid ((HA2.out.step hb).step (below_alloc w3 (.cells #[.int .i64 (c2 : Int), .int .i64 n2, .bool true] 24))); clear hb hA hW)
      | (go_at_call 18; (with_reducible refine (left_N _ HA3 HML HRT2 0 HV).mono ?_); rintro e w4 ⟨rfl, hb⟩; have B4 := Lib.hid (pstep B3.out hb); have C4 := trio_at (heap_step T3.out hb); clear hb)
      | fail)
    go_ret
    exact ⟨rfl, B4.out⟩
/-- ChainOff, at all arguments. -/
theorem chainOff_walk (v t : Value) (w : World) (h : ArgHds w v) (ht : ArgInt w t) : Calls Try.prog 6 #[v, t] w fun e w' => e = .returned (.bool true) ∧ Below w.heap.size w w' := by
  obtain ⟨ad, cap, l, rfl, hA, hn, _⟩ := h
  obtain ⟨t, rfl⟩ := ht
  cases hr : decide (RtI l) with
  | false => exact off_form t w (Lib.hid hA) (Lib.hid rfl) hn (Lib.hid hr)
  | true =>
    by_cases h0 : 0 ≤ t ∧ t ≤ 400
    · obtain ⟨T, rfl⟩ : ∃ T : Nat, t = T := ⟨t.toNat, by omega⟩
      cases ho : (talI l (cameI l T)).off with
      | true => exact off_yes T w (Lib.hid hA) (Lib.hid rfl) (Lib.hid hr) (by omega) ho
      | false => exact off_no T w (Lib.hid hA) (Lib.hid rfl) (Lib.hid hr) (by omega) ho
    · exact off_range t w (Lib.hid hA) (Lib.hid rfl) hn (Lib.hid hr) (Lib.hid (decide_eq_false h0))
end Go.Proofs.Ytdpfffifhkndlaa
