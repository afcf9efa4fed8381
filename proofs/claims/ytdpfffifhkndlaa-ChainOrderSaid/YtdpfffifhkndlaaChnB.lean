/- Package chain: the walks of rightTally, check, count, slices.Clone; handlers in a block of the call's own. -/
import Derived.Test.YtdpfffifhkndlaaChnA
import Derived.Lib.SliceRun
namespace Go.Proofs.Ytdpfffifhkndlaa
open Go.RowKit

instance : DecidablePred RtI := fun l => by unfold RtI; exact inferInstance
/-- A tally as it may be. -/
def tOk (c m : Int) (o : Bool) : Bool := decide (0 ≤ c ∧ c ≤ 1099511627776) && decide (0 ≤ m ∧ m ≤ 5) && (o == (m == 5))
/-- What Serve has to say against it. -/
def errI (l : List HdT) (c m : Int) (o : Bool) : Int := if decide (RtI l) = false ∨ tOk c m o = false then 1 else if o = true then 7 else if c = 1099511627776 then 4 else 0
theorem retB_eq {P : Prop} {b : Bool} {e : Ending} (h : RetB P e) (hb : b = true ↔ P) : e = .returned (.bool b) := by
  obtain ⟨b', rfl, h'⟩ := h
  have : b' = b := by rw [Bool.eq_iff_iff, h', hb]
  rw [this]
theorem retB_dec {P : Prop} [Decidable P] {b : Bool} {e : Ending} (h : RetB P e) (hb : decide P = b) : e = .returned (.bool b) := retB_eq h (by rw [← hb]; exact decide_eq_true_iff)
/-- A tally in a block. -/
def TalAt (w : World) (B : Nat) (c m : Int) (o : Bool) : Prop := w.heap[B]? = some (.cells #[.int .i64 c, .int .i64 m, .bool o] 24 (0, 0))
set_option maxHeartbeats 1000000 in
set_option maxRecDepth 100000 in
theorem rightTally_C (c m : Int) (o : Bool) (w : World) (b : Bool) (hb : Hid (tOk c m o = b)) :
    Calls Try.prog 26 #[.agg #[.int .i64 c, .int .i64 m, .bool o]] w fun e w' => e = .returned (.bool b) ∧ Below w.heap.size w w' := by
  have B0 := Lib.hid (below_alloc w (.cells #[.int .i64 c, .int .i64 m, .bool o] 24))
  cases h1 : decide (0 ≤ c ∧ c ≤ 1099511627776) with
  | false =>
    have H1 := Lib.hid h1
    have HE : Hid (false = b) := Lib.hid (by rw [← hb.out]; simp only [tOk, h1, Bool.false_and])
    clear h1
    go_enter Try.func26, Try.ntmps26
    go_wp2_with (first
      | (go_at_call 24; (with_reducible refine (within_C c 1099511627776 _ false H1).mono ?_); rintro e w1 ⟨rfl, rfl⟩)
      | fail)
    go_ret
    exact ⟨by rw [← HE.out]; rfl, B0.out⟩
  | true =>
    cases h2 : decide (0 ≤ m ∧ m ≤ 5) with
    | false =>
      have H1 := Lib.hid h1
      have H2 := Lib.hid h2
      have HE : Hid (false = b) := Lib.hid (by rw [← hb.out]; simp only [tOk, h1, h2, Bool.false_and, Bool.and_false])
      clear h1 h2
      go_enter Try.func26, Try.ntmps26
      go_wp2_with (first
        | (go_at_call 24; (with_reducible refine (within_C c 1099511627776 _ true H1).mono ?_); rintro e w1 ⟨rfl, rfl⟩)
        | (go_at_call 24; (with_reducible refine (within_C m 5 _ false H2).mono ?_); rintro e w1 ⟨rfl, rfl⟩)
        | fail)
      go_ret
      exact ⟨by rw [← HE.out]; rfl, B0.out⟩
    | true =>
      have H1 := Lib.hid h1
      have H2 := Lib.hid h2
      have HE : Hid ((o == (m == 5)) = b) := Lib.hid (by rw [← hb.out]; simp only [tOk, h1, h2, Bool.true_and])
      clear h1 h2
      go_enter Try.func26, Try.ntmps26
      go_wp2_with (first
        | (go_at_call 24; (with_reducible refine (within_C c 1099511627776 _ true H1).mono ?_); rintro e w1 ⟨rfl, rfl⟩)
        | (go_at_call 24; (with_reducible refine (within_C m 5 _ true H2).mono ?_); rintro e w1 ⟨rfl, rfl⟩)
        | fail)
      go_ret
      exact ⟨by rw [← HE.out]; rfl, B0.out⟩
set_option maxHeartbeats 2000000 in
set_option maxRecDepth 100000 in
theorem check_N {ad : Option Addr} {cap n : Nat} {l : List HdT} (c m : Int) (o : Bool) (w : World) (HA : Hid (shH.At w ad cap l)) (hm : Hid (l.length = n)) (hn : n ≤ 9223372036854775807) (x : Int) (hx : Hid (errI l c m o = x)) :
    Calls Try.prog 21 #[.slice ad n cap, .agg #[.int .i64 c, .int .i64 m, .bool o]] w fun e w' => e = .returned (.int .i64 x) ∧ Below w.heap.size w w' := by
  have B0 := Lib.hid (below_alloc w (.cells #[.int .i64 c, .int .i64 m, .bool o] 24))
  have T0 := Lib.hid (heap_alloc_new w (.cells #[.int .i64 c, .int .i64 m, .bool o] 24))
  have HA0 := Lib.hid (HA.out.step B0.out)
  cases hr : decide (RtI l) with
  | false =>
    have HR := Lib.hid hr
    have HE : Hid (1 = x) := Lib.hid (by rw [← hx.out, errI, if_pos (Or.inl hr)])
    clear hr
    go_enter Try.func21, Try.ntmps21
    go_wp2_with (first
      | (go_at_call 10; (with_reducible refine (right_N _ HA0 hm hn).mono ?_); rintro e w1 ⟨hr, hb⟩; have he := retB_dec hr HR.out; subst he; have B1 := Lib.hid (pstep B0.out hb); clear hb hr)
      | fail)
    go_ret
    exact ⟨by rw [← HE.out]; rfl, B1.out⟩
  | true =>
    have HR := Lib.hid hr
    cases ht : tOk c m o with
    | false =>
      have HT := Lib.hid ht
      have HE : Hid (1 = x) := Lib.hid (by rw [← hx.out, errI, if_pos (Or.inr ht)])
      clear hr ht
      go_enter Try.func21, Try.ntmps21
      go_wp2_with (first
        | (go_at_call 10; (with_reducible refine (right_N _ HA0 hm hn).mono ?_); rintro e w1 ⟨hr, hb⟩; have he := retB_dec hr HR.out; subst he; have B1 := Lib.hid (pstep B0.out hb); have T1 := Lib.hid (heap_step T0.out hb); have C1 := trio_at T1.out; clear hb hr)
        | (go_at_call 26; (with_reducible refine (rightTally_C c m o _ false HT).mono ?_); rintro e w2 ⟨rfl, hb⟩; have B2 := Lib.hid (pstep B1.out hb); clear hb)
        | fail)
      go_ret
      exact ⟨by rw [← HE.out]; rfl, B2.out⟩
    | true =>
      have HT := Lib.hid ht
      have HE : Hid ((if o = true then 7 else if c = 1099511627776 then 4 else 0) = x) := Lib.hid (by rw [← hx.out, errI, if_neg (show ¬ (decide (RtI l) = false ∨ tOk c m o = false) by rw [hr, ht]; simp)])
      clear hr ht
      cases o with
      | true =>
        go_enter Try.func21, Try.ntmps21
        go_wp2_with (first
          | (go_at_call 10; (with_reducible refine (right_N _ HA0 hm hn).mono ?_); rintro e w1 ⟨hr, hb⟩; have he := retB_dec hr HR.out; subst he; have B1 := Lib.hid (pstep B0.out hb); have T1 := Lib.hid (heap_step T0.out hb); have C1 := trio_at T1.out; clear hb hr)
          | (go_at_call 26; (with_reducible refine (rightTally_C c m true _ true HT).mono ?_); rintro e w2 ⟨rfl, hb⟩; have B2 := Lib.hid (pstep B1.out hb); have C2 := trio_at (heap_step T1.out hb); clear hb)
          | fail)
        go_ret
        exact ⟨by rw [← HE.out]; rfl, B2.out⟩
      | false =>
        by_cases hc : c = 1099511627776
        · subst hc
          go_enter Try.func21, Try.ntmps21
          go_wp2_with (first
            | (go_at_call 10; (with_reducible refine (right_N _ HA0 hm hn).mono ?_); rintro e w1 ⟨hr, hb⟩; have he := retB_dec hr HR.out; subst he; have B1 := Lib.hid (pstep B0.out hb); have T1 := Lib.hid (heap_step T0.out hb); have C1 := trio_at T1.out; clear hb hr)
            | (go_at_call 26; (with_reducible refine (rightTally_C _ m false _ true HT).mono ?_); rintro e w2 ⟨rfl, hb⟩; have B2 := Lib.hid (pstep B1.out hb); have C2 := trio_at (heap_step T1.out hb); clear hb)
            | fail)
          go_ret
          exact ⟨by rw [← HE.out]; rfl, B2.out⟩
        · have hc2 : (c == 1099511627776) = false := by simpa using hc
          go_enter Try.func21, Try.ntmps21
          go_wp2_with (first
            | (go_at_call 10; (with_reducible refine (right_N _ HA0 hm hn).mono ?_); rintro e w1 ⟨hr, hb⟩; have he := retB_dec hr HR.out; subst he; have B1 := Lib.hid (pstep B0.out hb); have T1 := Lib.hid (heap_step T0.out hb); have C1 := trio_at T1.out; clear hb hr)
            | (go_at_call 26; (with_reducible refine (rightTally_C c m false _ true HT).mono ?_); rintro e w2 ⟨rfl, hb⟩; have B2 := Lib.hid (pstep B1.out hb); have C2 := trio_at (heap_step T1.out hb); clear hb)
            | fail)
          go_ret
          exact ⟨by rw [← HE.out, if_neg (show ¬ (false = true) by decide), if_neg hc]; rfl, B2.out⟩
/-- Nobody so far, behind one more. -/
def nobI (m : Int) (cl : Bool) : Int := if cl = true then 0 else m + 1
set_option maxHeartbeats 1000000 in
set_option maxRecDepth 100000 in
theorem count_C (c m : Int) (o cl : Bool) (w : World) (hc0 : 0 ≤ c) (hc : c ≤ 1099511627776) (hm0 : 0 ≤ m) (hm : m ≤ 5) (m' : Int) (o' : Bool) (H1 : Hid (nobI m cl = m')) (H2 : Hid ((m' == 5) = o')) :
    Calls Try.prog 23 #[.agg #[.int .i64 c, .int .i64 m, .bool o], .bool cl] w fun e w' => e = .returned (.agg #[.int .i64 (c + 1), .int .i64 m', .bool o']) ∧ Below w.heap.size w w' := by
  cases cl with
  | true =>
    obtain rfl : m' = 0 := by rw [← H1.out]; rfl
    obtain rfl : o' = false := by rw [← H2.out]; rfl
    go_enter Try.func23, Try.ntmps23
    go_wp2_with fail
    refine bodyPost_ret (results_cell_row (fn := Try.f23) rfl _ _ (w.heap.size + 1) 24 #[.int .i64 (c + 1), .int .i64 0, .bool false] (0, 0) _ rfl (heap_alloc2_new w _ _) Try.underlying24 rfl size_tally) rfl ?_
    exact ⟨rfl, below_two w _ _⟩
  | false =>
    obtain rfl : m' = m + 1 := by rw [← H1.out]; rfl
    obtain rfl : o' = (m + 1 == 5) := H2.out.symm
    go_enter Try.func23, Try.ntmps23
    go_wp2_with fail
    refine bodyPost_ret (results_cell_row (fn := Try.f23) rfl _ _ (w.heap.size + 1) 24 #[.int .i64 (c + 1), .int .i64 (m + 1), .bool (m + 1 == 5)] (0, 0) _ rfl (heap_alloc2_new w _ _) Try.underlying24 rfl size_tally) rfl ?_
    exact ⟨rfl, below_two w _ _⟩
set_option maxHeartbeats 1000000 in
set_option maxRecDepth 100000 in
theorem clone_H (xs : List HdT) (sa : Option Addr) (n c : Nat) (w : World) (H1 : Hid (xs.length = n)) (HA : Hid (shH.At w sa c xs)) (hn : n ≤ 8796093022208) :
    Calls Try.prog 19 #[.slice sa n c] w fun e w' => ∃ ra rc, e = .returned (.slice ra n rc) ∧ w'.ownsRow w.heap.size 32 2 (.slice ra n rc) n (shH.flat xs) ∧ Below w.heap.size w w' := by
  obtain ⟨i0, hi, hz0, hz1, hz2⟩ := info_parts' info_handler
  have qn : ∀ (w : World) (a : Option Addr) (n c n' c' : Nat), (binOp .eql 22 (.slice a n c) (.slice none n' c')).run Try.prog w = .ok (.bool a.isNone) w := fun w a n c n' c' => Lib.run_eql_slice_nil w _ _ a n c n' c' Try.underlying22
  cases sa with
  | none =>
    obtain ⟨rfl, hx⟩ := HA.out.1 rfl
    have hn0 : n = 0 := by rw [← H1.out, hx]; rfl
    subst hn0 hx
    clear HA H1
    go_enter Try.func19, Try.ntmps19
    go_wp2_with fail
    go_ret
    exact ⟨_, _, rfl, World.ownsRow_nil _ _ _ _, Below.refl _ _⟩
  | some a =>
    have hown : (w.alloc (.cells #[] 32)).ownsRow w.heap.size 32 2 (.slice (some ⟨w.heap.size, 0, none⟩) 0 0) 0 [] := World.ownsRow_made w #[] 0 (Nat.le_refl _) (by decide) rfl
    have HO := Lib.hid hown
    have HA2 := Lib.hid (HA.out.step (below_alloc w (.cells #[] 32)))
    clear hown
    go_enter Try.func19, Try.ntmps19
    go_wp2_with (first
      | (at_builtin; refine wpList_append_at shH rfl _ _ 22 rfl w.heap.size 32 i0 _ 16 Try.underlying22 hi hz0 hz1 hz2 rfl (.slice (some ⟨w.heap.size, 0, none⟩) 0 0) [] xs rfl HO.out (some a) n c rfl H1 HA2.out ?h63 ?hby ?hba ?_)
      | fail)
    case h63 => simp; unfold maxLen; omega
    case hby => simp; omega
    case hba => simp
    intro ra rc w3 own3 grow3 _
    have B3 : Below w.heap.size w w3 := (below_alloc w _).grown grow3 (by simp) (fun k hk => by simp [Value.ownBlock] at hk; omega)
    have O3 := Lib.hid own3
    clear own3 grow3
    go_wp2_with fail
    go_ret
    exact ⟨_, _, rfl, O3.out, B3⟩
/-- Handlers in a block of the call's own. -/
def RowH (w : World) (B : Nat) (l : List HdT) : Prop := ∃ cur, w.heap[B]? = some (.cells cur 32 (0, 0)) ∧ ∀ j h, l[j]? = some h → cur[j * 2]? = some (.int .i64 h.says) ∧ cur[j * 2 + 1]? = some (.int .i64 h.left)
section
variable {w w' : World} {B : Nat} {l : List HdT}
theorem RowH.lt (r : RowH w B l) : B < w.heap.size := by obtain ⟨cur, hc, _⟩ := r; exact heap_lt hc
theorem RowH.same (r : RowH w B l) (h : w'.heap[B]? = w.heap[B]?) : RowH w' B l := by
  obtain ⟨cur, hc, hi⟩ := r
  exact ⟨cur, by rw [h]; exact hc, hi⟩
theorem RowH.step (r : RowH w B l) (hb : Below w.heap.size w w') : RowH w' B l := r.same (hb.block B r.lt)
theorem RowH.cells (r : RowH w B l) {j : Nat} {h : HdT} (hj : l[j]? = some h) : w.cell? ⟨B, j * 2, none⟩ = some (.int .i64 h.says) ∧ w.cell? ⟨B, j * 2 + 1, none⟩ = some (.int .i64 h.left) := by
  obtain ⟨cur, hc, hi⟩ := r
  exact ⟨by rw [cell_of_row w B _ _ _ _ hc]; exact (hi j h hj).1, by rw [cell_of_row w B _ _ _ _ hc]; exact (hi j h hj).2⟩
theorem RowH.frozen (r : RowH w B l) (i : Nat) : w.frozen? ⟨B, i, none⟩ = false := by
  obtain ⟨cur, hc, _⟩ := r
  exact frozen_of_row w B i cur _ hc
theorem RowH.put0 (r : RowH w B l) {j : Nat} {h : HdT} (hj : l[j]? = some h) (v : Int) : RowH (w.setCell ⟨B, j * 2, none⟩ (.int .i64 v)) B (l.set j ⟨v, h.left⟩) := by
  obtain ⟨cur, hc, hi⟩ := r
  have h8 : j * 2 < cur.size := (Array.getElem?_eq_some_iff.1 (hi j h hj).1).1
  have hl := (List.getElem?_eq_some_iff.1 hj).1
  refine ⟨_, heap_setCell_same w B (j * 2) cur _ _ hc, fun k g hk => ?_⟩
  rw [List.getElem?_set] at hk
  by_cases e : j = k
  · subst e
    rw [if_pos rfl, if_pos hl] at hk
    cases hk
    exact ⟨by simp [Array.getElem?_setIfInBounds]; omega, by rw [Array.getElem?_setIfInBounds_ne (by omega)]; exact (hi j h hj).2⟩
  · rw [if_neg e] at hk
    rw [Array.getElem?_setIfInBounds_ne (by omega), Array.getElem?_setIfInBounds_ne (by omega)]
    exact hi k g hk
theorem RowH.put1 (r : RowH w B l) {j : Nat} {h : HdT} (hj : l[j]? = some h) (v : Int) : RowH (w.setCell ⟨B, j * 2 + 1, none⟩ (.int .i64 v)) B (l.set j ⟨h.says, v⟩) := by
  obtain ⟨cur, hc, hi⟩ := r
  have h8 : j * 2 + 1 < cur.size := (Array.getElem?_eq_some_iff.1 (hi j h hj).2).1
  have hl := (List.getElem?_eq_some_iff.1 hj).1
  refine ⟨_, heap_setCell_same w B (j * 2 + 1) cur _ _ hc, fun k g hk => ?_⟩
  rw [List.getElem?_set] at hk
  by_cases e : j = k
  · subst e
    rw [if_pos rfl, if_pos hl] at hk
    cases hk
    exact ⟨by rw [Array.getElem?_setIfInBounds_ne (by omega)]; exact (hi j h hj).1, by simp [Array.getElem?_setIfInBounds]; omega⟩
  · rw [if_neg e] at hk
    rw [Array.getElem?_setIfInBounds_ne (by omega), Array.getElem?_setIfInBounds_ne (by omega)]
    exact hi k g hk
theorem RowH.at (r : RowH w B l) (cap : Nat) : shH.At w (some ⟨B, 0, none⟩) cap l :=
  ⟨(fun h => by cases h), fun _ => ⟨B, 0, rfl, r.lt, fun k hk => by
    have hs : shH.size = 2 := rfl
    rw [hs] at hk
    rw [Nat.zero_add]
    have hj : l[k / 2]? = some (l[k / 2]'(by omega)) := List.getElem?_eq_getElem _
    have hc := r.cells hj
    rcases (by omega : k = k / 2 * 2 ∨ k = k / 2 * 2 + 1) with e | e
    · have hf := shH.flat_at l (k / 2) 0 _ hj (by decide)
      rw [hs, Nat.add_zero, ← e] at hf
      rw [← e] at hc
      rw [hc.1, hf]; rfl
    · have hf := shH.flat_at l (k / 2) 1 _ hj (by decide)
      rw [hs, ← e] at hf
      rw [← e] at hc
      rw [hc.2, hf]; rfl⟩⟩
end
/-- Handlers of a call's own: nil, or a block from 'base' on. -/
def OwnH (base : Nat) (w : World) (ad : Option Addr) (cap : Nat) (l : List HdT) : Prop := (ad = none ∧ cap = 0 ∧ l = []) ∨ ∃ B, ad = some ⟨B, 0, none⟩ ∧ base ≤ B ∧ RowH w B l
theorem OwnH.at {base : Nat} {w : World} {ad : Option Addr} {cap : Nat} {l : List HdT} (h : OwnH base w ad cap l) : shH.At w ad cap l := by
  rcases h with ⟨rfl, rfl, rfl⟩ | ⟨B, rfl, _, h⟩
  · exact Shape.At.nil w
  · exact h.at cap
theorem own_hds {base : Nat} {w : World} {ad : Option Addr} {cap n : Nat} {l : List HdT} (h : w.ownsRow base 32 2 (.slice ad n cap) n (shH.flat l)) : OwnH base w ad cap l := by
  obtain ⟨h1, h2⟩ := h
  have hlen := shH.flat_len l
  have hs : shH.size = 2 := rfl
  rw [hs] at hlen
  rcases h2 with ⟨h2, h3⟩ | ⟨g, cp, cur, e, hg, hc, _, _, hsz, ht⟩
  · simp only [Value.slice.injEq] at h2
    obtain ⟨rfl, rfl, rfl⟩ := h2
    exact Or.inl ⟨rfl, rfl, List.eq_nil_of_length_eq_zero (by omega)⟩
  · simp only [Value.slice.injEq, true_and] at e
    obtain ⟨rfl, rfl⟩ := e
    refine Or.inr ⟨g, rfl, hg, cur, hc, fun j h hj => ?_⟩
    have hl := (List.getElem?_eq_some_iff.1 hj).1
    have f0 := shH.flat_at l j 0 h hj (by decide)
    have f1 := shH.flat_at l j 1 h hj (by decide)
    rw [hs] at f0 f1
    rw [← ht, List.getElem?_take_of_lt (by omega), Array.getElem?_toList] at f0
    rw [← ht, List.getElem?_take_of_lt (by omega), Array.getElem?_toList] at f1
    exact ⟨f0, f1⟩
end Go.Proofs.Ytdpfffifhkndlaa
