/- Package lift: isBlock, Wrong, check, Way. -/
import Derived.Test.YteabdbgllafafaaLftA
import Derived.BigQuiet
import Derived.Lib.MinMax
import Derived.Deep.QuietTactic
namespace Go.Proofs.Yteabdbgllafafaa
open Go.RowKit

def okH (h : Int) : Prop := 0 ≤ h ∧ h ≤ 1099511627776
instance (h : Int) : Decidable (okH h) := by unfold okH; infer_instance
def errL (l : List Int) : Int := if okL l then 0 else 2
def errH (h : Int) (l : List Int) : Int := if okH h ∧ okL l then 0 else 2
set_option maxHeartbeats 1000000 in
set_option maxRecDepth 100000 in
theorem isblock_W (x : Int) (w : World) (b : Bool) (hb : Hid (decide (okH x) = b)) : Calls Try.prog 36 #[.int .i64 x] w fun e w' => e = .returned (.bool b) ∧ w = w' := by
  by_cases h1 : 0 ≤ x
  · have h1' : decide (x ≥ 0) = true := decide_eq_true h1
    by_cases h2 : x ≤ 1099511627776
    · have h2' : decide (x ≤ 1099511627776) = true := decide_eq_true h2
      obtain rfl : b = true := by rw [← hb.out]; exact decide_eq_true ⟨h1, h2⟩
      go_enter Try.func36, Try.ntmps36
      go_wp2_with fail
      go_ret
      exact ⟨rfl, rfl⟩
    · have h2' : decide (x ≤ 1099511627776) = false := decide_eq_false h2
      obtain rfl : b = false := by rw [← hb.out]; exact decide_eq_false (fun h => h2 h.2)
      go_enter Try.func36, Try.ntmps36
      go_wp2_with fail
      go_ret
      exact ⟨rfl, rfl⟩
  · have h1' : decide (x ≥ 0) = false := decide_eq_false h1
    obtain rfl : b = false := by rw [← hb.out]; exact decide_eq_false (fun h => h1 h.1)
    go_enter Try.func36, Try.ntmps36
    go_wp2_with fail
    go_ret
    exact ⟨rfl, rfl⟩
set_option maxHeartbeats 2000000 in
set_option maxRecDepth 100000 in
theorem wrong_W {ad : Option Addr} {cap n : Nat} {l : List Int} (w : World) (HA : Hid (shI.At w ad cap l)) (hn : Hid (l.length = n)) (v : Int) (hv : Hid (errL l = v)) :
    Calls Try.prog 12 #[.slice ad n cap] w fun e w' => e = .returned (.int .i64 v) ∧ w = w' := by
  by_cases h4 : n ≤ 400
  · have h4' : decide ((n : Int) > 400) = false := decide_eq_false (by omega)
    go_enter Try.func12, Try.ntmps12
    go_wp2_with fail
    go_loopw [10] (fun iv wr => ∃ i : Nat, i ≤ n ∧ iv = .int .i64 i ∧ Hid (∀ x ∈ l.take i, okH x) ∧ wr = w) (fun iv _ => n - (intOf iv).toNat)
    case atStart => exact ⟨0, Nat.zero_le _, rfl, Lib.hid (fun x hx => by simp at hx), rfl⟩
    case round =>
      obtain ⟨i, hin, rfl, HALL, rfl⟩ := hrel
      by_cases hlt : i < n
      · obtain ⟨b, hb⟩ : ∃ b, l[i]? = some b := ⟨l[i]'(by rw [hn.out]; exact hlt), List.getElem?_eq_getElem _⟩
        have HB := Lib.hid hb
        obtain ⟨bb, off, rfl, hbl, c0⟩ := at_int HA.out hb
        by_cases hr : okH b
        · have hrd := Lib.hid (decide_eq_true hr)
          have HALL2 : Hid (∀ x ∈ l.take (i + 1), okH x) := Lib.hid (fun x hx => by
            rw [List.take_add_one, HB.out] at hx
            rcases List.mem_append.1 hx with hx | hx
            · exact HALL.out x hx
            · simp at hx; rw [hx]; exact hr)
          clear hb hr
          go_wp2_with (first
            | (go_at_call 36; (with_reducible refine (isblock_W _ _ _ hrd).mono ?_); rintro e w5 ⟨rfl, rfl⟩)
            | fail)
          go_roundw
          case rel => exact ⟨i + 1, by omega, by go_num, HALL2, by trivial⟩
          case measure => simp [intOf]; omega
        · have hrd := Lib.hid (decide_eq_false hr)
          obtain rfl : v = 2 := by
            rw [← hv.out]
            exact if_neg (fun q => hr (q.2 b (List.mem_of_getElem? hb)))
          clear hb hr
          go_wp2_with (first
            | (go_at_call 36; (with_reducible refine (isblock_W _ _ _ hrd).mono ?_); rintro e w5 ⟨rfl, rfl⟩)
            | fail)
          go_ret
          exact ⟨rfl, rfl⟩
      · obtain rfl : v = 0 := by
          rw [← hv.out]
          have e : l.take i = l := by rw [show i = n by omega, ← hn.out, List.take_length]
          have h := HALL.out
          rw [e] at h
          exact if_pos ⟨by rw [hn.out]; exact h4, h⟩
        go_wp2_with fail
        go_ret
        exact ⟨rfl, rfl⟩
  · have h4' : decide ((n : Int) > 400) = true := decide_eq_true (by omega)
    obtain rfl : v = 2 := by
      rw [← hv.out]
      exact if_neg (fun q => h4 (by rw [← hn.out]; exact q.1))
    go_enter Try.func12, Try.ntmps12
    go_wp2_with fail
    go_ret
    exact ⟨rfl, rfl⟩
set_option maxHeartbeats 1000000 in
set_option maxRecDepth 100000 in
theorem check_W {ad : Option Addr} {cap n : Nat} {l : List Int} (head : Int) (w : World) (HA : Hid (shI.At w ad cap l)) (hn : Hid (l.length = n)) (v : Int) (hv : Hid (errH head l = v)) :
    Calls Try.prog 33 #[.int .i64 head, .slice ad n cap] w fun e w' => e = .returned (.int .i64 v) ∧ w = w' := by
  by_cases hr : okH head
  · have hrd := Lib.hid (decide_eq_true hr)
    have hq : Hid (errL l = v) := Lib.hid (by
      rw [← hv.out]
      unfold errL errH
      by_cases h : okL l
      · rw [if_pos h, if_pos ⟨hr, h⟩]
      · rw [if_neg h, if_neg (fun q => h q.2)])
    clear hr
    go_enter Try.func33, Try.ntmps33
    go_wp2_with (first
      | (go_at_call 36; (with_reducible refine (isblock_W _ _ _ hrd).mono ?_); rintro e w5 ⟨rfl, rfl⟩)
      | (go_at_call 12; (with_reducible refine (wrong_W _ HA hn _ hq).mono ?_); rintro e w5 ⟨rfl, rfl⟩)
      | fail)
    go_ret
    exact ⟨rfl, rfl⟩
  · have hrd := Lib.hid (decide_eq_false hr)
    obtain rfl : v = 2 := by
      rw [← hv.out]
      exact if_neg (fun q => hr q.1)
    clear hr
    go_enter Try.func33, Try.ntmps33
    go_wp2_with (first
      | (go_at_call 36; (with_reducible refine (isblock_W _ _ _ hrd).mono ?_); rintro e w5 ⟨rfl, rfl⟩)
      | fail)
    go_ret
    exact ⟨rfl, rfl⟩
theorem errH_cases (h : Int) (l : List Int) : (errH h l = 0 ∧ okH h ∧ okL l) ∨ (errH h l = 2 ∧ ¬ (okH h ∧ okL l)) := by
  unfold errH
  by_cases q : okH h ∧ okL l
  · exact Or.inl ⟨if_pos q, q⟩
  · exact Or.inr ⟨if_neg q, q⟩
/-- What Way answers. -/
def wayV (h : Int) (l : List Int) : Int := if okH h ∧ okL l then wayS h l else 0
set_option maxHeartbeats 2000000 in
set_option maxRecDepth 100000 in
theorem way_W {ad : Option Addr} {cap n : Nat} {l : List Int} (head : Int) (w : World) (HA : Hid (shI.At w ad cap l)) (hn : Hid (l.length = n)) (v : Int) (hv : Hid (wayV head l = v)) (er : Int) (her : Hid (errH head l = er)) :
    Calls Try.prog 9 #[.int .i64 head, .slice ad n cap] w fun e w' => e = .returned (.tuple #[.int .i64 v, .int .i64 er]) ∧ w = w' := by
  rcases errH_cases head l with ⟨q0, qh, ql⟩ | ⟨q0, q⟩
  · obtain rfl : er = 0 := by rw [← her.out]; exact q0
    have HV : Hid (wayS head l = v) := Lib.hid (by rw [← hv.out]; exact (if_pos ⟨qh, ql⟩).symm)
    have h4 : n ≤ 400 := by rw [← hn.out]; exact ql.1
    have QL := Lib.hid ql
    have QH := Lib.hid qh
    clear ql qh q0 hv
    go_enter Try.func9, Try.ntmps9
    go_wp2_with (first
      | (go_at_call 33; (with_reducible refine (check_W head _ HA hn _ her).mono ?_); rintro e w5 ⟨rfl, rfl⟩)
      | fail)
    go_loopw [0, 7, 18] (fun hd sm iv wr => ∃ i : Nat, i ≤ n ∧ iv = .int .i64 i ∧ sm = .int .i64 (wayS head (l.take i)) ∧ hd = .int .i64 (endS head (l.take i)) ∧ wr = w) (fun _ _ iv _ => n - (intOf iv).toNat)
    case atStart => exact ⟨0, Nat.zero_le _, rfl, rfl, rfl, rfl⟩
    case round =>
      obtain ⟨i, hin, rfl, rfl, rfl, rfl⟩ := hrel
      by_cases hlt : i < n
      · obtain ⟨b, hb⟩ : ∃ b, l[i]? = some b := ⟨l[i]'(by rw [hn.out]; exact hlt), List.getElem?_eq_getElem _⟩
        obtain ⟨hw1, hw2⟩ := way_next (h := head) hb
        have HNX := Lib.hid hw1
        have HND := Lib.hid hw2
        obtain ⟨bb, off, rfl, hbl, c0⟩ := at_int HA.out hb
        have hbr := QL.out.2 b (List.mem_of_getElem? hb)
        have hbd : 0 ≤ wayS head (l.take i) ∧ wayS head (l.take i) ≤ 440904162738176 ∧ 0 ≤ endS head (l.take i) ∧ endS head (l.take i) ≤ 1099511627776 := by
          have hall : ∀ x ∈ l.take i, 0 ≤ x ∧ x ≤ 1099511627776 := fun x hx => QL.out.2 x (List.mem_of_mem_take hx)
          have h2 := way_le QH.out.1 QH.out.2 hall
          have h3 := way_pos (l.take i) head
          rw [List.length_take, hn.out] at h2
          have h5 : ((min i n : Nat) : Int) * 1099511627776 ≤ 400 * 1099511627776 := Int.mul_le_mul_of_nonneg_right (by omega) (by omega)
          have h6 : 0 ≤ endS head (l.take i) ∧ endS head (l.take i) ≤ 1099511627776 := by
            by_cases he : l.take i = []
            · rw [he]; exact QH.out
            · exact hall _ (end_mem (h := head) he)
          exact ⟨h3, by omega, h6.1, h6.2⟩
        obtain ⟨sm, hsm⟩ : ∃ sm, wayS head (l.take i) = sm := ⟨_, rfl⟩
        obtain ⟨hd, hhd⟩ : ∃ hd, endS head (l.take i) = hd := ⟨_, rfl⟩
        rw [hsm, hhd] at hbd HNX
        rw [hsm, hhd]
        obtain ⟨k1, k2, k3, k4⟩ := hbd
        obtain ⟨hr0, hr1⟩ := hbr
        clear hw1 hw2 hb hsm hhd
        have x1 : IntKind.i64.wrap (b - hd) = b - hd := by rw [IntKind.wrap_i64]; omega
        have x2 : IntKind.i64.wrap (hd - b) = hd - b := by rw [IntKind.wrap_i64]; omega
        obtain ⟨d, hd'⟩ : ∃ d, dstS hd b = d := ⟨_, rfl⟩
        have hdm : d = max (b - hd) (hd - b) := by rw [← hd']; unfold dstS; split <;> omega
        have hd0 : 0 ≤ d ∧ d ≤ 1099511627776 := by omega
        have HDM := Lib.hid hdm.symm
        rw [hd'] at HNX
        have x3 : IntKind.i64.wrap (sm + d) = sm + d := by rw [IntKind.wrap_i64]; omega
        clear hdm hd'
        have x4 : max (b - hd) (hd - b) = d := HDM.out
        go_wp2_with fail
        trace_state
        go_roundw
        case rel => exact ⟨i + 1, by omega, by go_num, by rw [HNX.out], by rw [HND.out], by trivial⟩
        case measure => simp [intOf]; omega
      · have e : l.take i = l := by rw [show i = n by omega, ← hn.out, List.take_length]
        rw [e, HV.out]
        clear e
        go_wp2_with fail
        go_ret2
        exact ⟨rfl, rfl⟩
  · obtain rfl : er = 2 := by rw [← her.out]; exact q0
    obtain rfl : v = 0 := by rw [← hv.out]; exact if_neg q
    clear q q0
    go_enter Try.func9, Try.ntmps9
    go_wp2_with (first
      | (go_at_call 33; (with_reducible refine (check_W head _ HA hn _ her).mono ?_); rintro e w5 ⟨rfl, rfl⟩)
      | fail)
    go_ret2
    exact ⟨rfl, rfl⟩
end Go.Proofs.Yteabdbgllafafaa
