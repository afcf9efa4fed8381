/- Package nest: the walks of checkPush, checkPop, check, slices.Clone and perform. -/
import Derived.Test.YteeejkcehajokaaNesA
import Derived.Lib.SliceRun
namespace Go.Proofs.Yteeejkcehajokaa
open Go.RowKit

theorem errN_push {on : Bool} {l : List FrT} {kind : Int} (hk : kind = 1 ∨ kind = 3) : errN true ⟨on, l⟩ kind = if 400 ≤ l.length then 4 else if kind = 3 ∧ on = false then 7 else 0 := by
  unfold errN
  rw [if_neg (by decide), if_neg (by omega), if_pos hk]
theorem errN_pop0 {on : Bool} {l : List FrT} {kind : Int} (hk : kind = 2 ∨ kind = 4) (h : l.length = 0) : errN true ⟨on, l⟩ kind = 3 := by
  unfold errN
  rw [if_neg (by decide), if_neg (by omega), if_neg (by omega), List.eq_nil_of_length_eq_zero h]
  rfl
theorem last_get {l : List FrT} {n : Nat} {f : FrT} (hm : l.length = n + 1) (hf : l[n]? = some f) : l.getLast? = some f := by
  rw [List.getLast?_eq_getElem?, hm]; exact hf
theorem errN_pop {on : Bool} {l : List FrT} {n : Nat} {f : FrT} {kind : Int} (hk : kind = 2 ∨ kind = 4) (hm : l.length = n + 1) (hf : l[n]? = some f) : errN true ⟨on, l⟩ kind = if f.irq = decide (kind = 2) then 8 else 0 := by
  unfold errN
  rw [if_neg (by decide), if_neg (by omega), if_neg (by omega)]
  simp only [last_get hm hf]
theorem errN_kind {c : CoreT} {kind : Int} (h1 : ¬ kind = 1) (h2 : ¬ kind = 2) (h3 : ¬ kind = 3) (h4 : ¬ kind = 4) : errN true c kind = 5 := by
  unfold errN
  rw [if_neg (by decide), if_pos (by omega)]
set_option maxHeartbeats 1000000 in
set_option maxRecDepth 100000 in
theorem push_C {ad : Option Addr} {cap n : Nat} (on irq : Bool) (w : World) (hn : n ≤ 400) (x : Int) (hx : Hid ((if 400 ≤ n then 4 else if irq = true ∧ on = false then 7 else 0) = x)) :
    Calls Try.prog 19 #[.agg #[.bool on, .slice ad n cap], .bool irq] w fun e w' => e = .returned (.int .i64 x) ∧ Below w.heap.size w w' := by
  have B0 := Lib.hid (below_alloc w (.cells #[.bool on, .slice ad n cap] 24))
  by_cases h4 : n = 400
  · subst h4
    go_enter Try.func19, Try.ntmps19
    go_wp2_with fail
    go_ret
    exact ⟨by rw [← hx.out, if_pos (Nat.le_refl _)]; rfl, B0.out⟩
  · have h5 : ((n : Int) == 400) = false := by simp; omega
    have h6 : ¬ 400 ≤ n := by omega
    cases irq <;> cases on
    all_goals go_enter Try.func19, Try.ntmps19
    all_goals go_wp2_with fail
    all_goals go_ret
    all_goals exact ⟨by rw [← hx.out, if_neg h6]; simp, B0.out⟩
set_option maxHeartbeats 1000000 in
set_option maxRecDepth 100000 in
theorem pop_C0 {ad : Option Addr} {cap : Nat} (on irq : Bool) (w : World) :
    Calls Try.prog 20 #[.agg #[.bool on, .slice ad 0 cap], .bool irq] w fun e w' => e = .returned (.int .i64 3) ∧ Below w.heap.size w w' := by
  have B0 := Lib.hid (below_alloc w (.cells #[.bool on, .slice ad 0 cap] 24))
  go_enter Try.func20, Try.ntmps20
  go_wp2_with fail
  go_ret
  exact ⟨rfl, B0.out⟩
set_option maxHeartbeats 1000000 in
set_option maxRecDepth 100000 in
theorem pop_C {ad : Option Addr} {cap n : Nat} {l : List FrT} (on irq : Bool) (w : World) (HA : Hid (shF.At w ad cap l)) (hn : n ≤ 400) (x y : Bool) (hf : Hid (l[n]? = some ⟨x, y⟩)) (r : Int) (hr : Hid ((if y = irq then 0 else 8) = r)) :
    Calls Try.prog 20 #[.agg #[.bool on, .slice ad ((n + 1 : Nat) : Nat) cap], .bool irq] w fun e w' => e = .returned (.int .i64 r) ∧ Below w.heap.size w w' := by
  have B0 := Lib.hid (below_alloc w (.cells #[.bool on, .slice ad (n + 1) cap] 24))
  obtain ⟨b, off, rfl, hb, c0, c1⟩ := at_fr (HA.out) hf.out
  simp only at c0 c1
  have e1 : ((n : Int) + 1 == 0) = false := by simp; omega
  have e2 : (n : Int) + 1 - 1 = (n : Int) := by omega
  have e3 : ¬ ((n : Int) + 1 = 0) := by omega
  cases y <;> cases irq
  all_goals go_enter Try.func20, Try.ntmps20
  all_goals go_wp2_with fail
  all_goals go_ret
  all_goals exact ⟨by rw [← hr.out]; simp, B0.out⟩
set_option maxHeartbeats 1000000 in
set_option maxRecDepth 100000 in
/-- nest.check, at a core with at most 400 frames. -/
theorem check_N {ad : Option Addr} {cap n : Nat} {l : List FrT} (on : Bool) (kind : Int) (w : World) (HA : Hid (shF.At w ad cap l)) (hm : Hid (l.length = n)) (hn : n ≤ 400) (x : Int) (hx : Hid (errN true ⟨on, l⟩ kind = x)) :
    Calls Try.prog 16 #[.agg #[.bool on, .slice ad n cap], .int .i64 kind] w fun e w' => e = .returned (.int .i64 x) ∧ Below w.heap.size w w' := by
  have B0 := Lib.hid (below_alloc w (.cells #[.bool on, .slice ad n cap] 24))
  have HA0 := Lib.hid (HA.out.step B0.out)
  by_cases h1 : kind = 1
  · subst h1
    have he := hx.out
    rw [errN_push (Or.inl rfl), hm.out] at he
    have HE : Hid ((if 400 ≤ n then 4 else if false = true ∧ on = false then 7 else 0) = x) := Lib.hid (by rw [← he]; simp)
    clear he
    go_enter Try.func16, Try.ntmps16
    go_wp2_with (first
      | (go_at_call 19; (with_reducible refine (push_C on false _ hn x HE).mono ?_); rintro e w1 ⟨rfl, hb⟩; have B1 := Lib.hid (pstep B0.out hb); clear hb)
      | fail)
    go_ret
    exact ⟨rfl, B1.out⟩
  by_cases h3 : kind = 3
  · subst h3
    have he := hx.out
    rw [errN_push (Or.inr rfl), hm.out] at he
    have HE : Hid ((if 400 ≤ n then 4 else if true = true ∧ on = false then 7 else 0) = x) := Lib.hid (by rw [← he]; simp)
    clear he
    go_enter Try.func16, Try.ntmps16
    go_wp2_with (first
      | (go_at_call 19; (with_reducible refine (push_C on true _ hn x HE).mono ?_); rintro e w1 ⟨rfl, hb⟩; have B1 := Lib.hid (pstep B0.out hb); clear hb)
      | fail)
    go_ret
    exact ⟨rfl, B1.out⟩
  by_cases hp : kind = 2 ∨ kind = 4
  · cases n with
    | zero =>
      have HE : Hid (3 = x) := Lib.hid (by rw [← hx.out, errN_pop0 hp hm.out])
      rcases hp with rfl | rfl
      all_goals go_enter Try.func16, Try.ntmps16
      all_goals go_wp2_with (first
        | (go_at_call 20; (with_reducible refine (pop_C0 on _ _).mono ?_); rintro e w1 ⟨rfl, hb⟩; have B1 := Lib.hid (pstep B0.out hb); clear hb)
        | fail)
      all_goals go_ret
      all_goals exact ⟨by rw [← HE.out]; rfl, B1.out⟩
    | succ n =>
      obtain ⟨f, hf⟩ : ∃ f, l[n]? = some f := ⟨l[n]'(by rw [hm.out]; omega), List.getElem?_eq_getElem _⟩
      have HE : Hid ((if f.irq = decide (kind = 2) then 8 else 0) = x) := Lib.hid (by rw [← hx.out, errN_pop hp hm.out hf])
      have HF := Lib.hid hf
      clear hf
      obtain ⟨p, y⟩ := f
      have h4 : n ≤ 400 := by omega
      rcases hp with rfl | rfl
      · have HR : Hid ((if y = false then 0 else 8) = x) := Lib.hid (by rw [← HE.out]; cases y <;> simp)
        go_enter Try.func16, Try.ntmps16
        go_wp2_with (first
          | (go_at_call 20; (with_reducible refine (pop_C on false _ HA0 h4 p y HF x HR).mono ?_); rintro e w1 ⟨rfl, hb⟩; have B1 := Lib.hid (pstep B0.out hb); clear hb)
          | fail)
        go_ret
        exact ⟨rfl, B1.out⟩
      · have HR : Hid ((if y = true then 0 else 8) = x) := Lib.hid (by rw [← HE.out]; cases y <;> simp)
        go_enter Try.func16, Try.ntmps16
        go_wp2_with (first
          | (go_at_call 20; (with_reducible refine (pop_C on true _ HA0 h4 p y HF x HR).mono ?_); rintro e w1 ⟨rfl, hb⟩; have B1 := Lib.hid (pstep B0.out hb); clear hb)
          | fail)
        go_ret
        exact ⟨rfl, B1.out⟩
  · have HE : Hid (5 = x) := Lib.hid (by rw [← hx.out, errN_kind h1 (fun e => hp (Or.inl e)) h3 (fun e => hp (Or.inr e))])
    have g1 : (kind == 1) = false := by simpa using h1
    have g2 : (kind == 2) = false := by simp; exact fun e => hp (Or.inl e)
    have g3 : (kind == 3) = false := by simpa using h3
    have g4 : (kind == 4) = false := by simp; exact fun e => hp (Or.inr e)
    go_enter Try.func16, Try.ntmps16
    go_wp2_with fail
    go_ret
    exact ⟨by rw [← HE.out]; rfl, B0.out⟩
set_option maxHeartbeats 1000000 in
set_option maxRecDepth 100000 in
theorem clone_F (xs : List FrT) (sa : Option Addr) (n c : Nat) (w : World) (H1 : Hid (xs.length = n)) (HA : Hid (shF.At w sa c xs)) (hn : n ≤ 400) :
    Calls Try.prog 17 #[.slice sa n c] w fun e w' => ∃ v, e = .returned v ∧ w'.ownsRow w.heap.size 43 2 v n (shF.flat xs) ∧ Below w.heap.size w w' := by
  obtain ⟨i0, hi, hz0, hz1, hz2⟩ := info_parts' info_frame
  have qn : ∀ (w : World) (a : Option Addr) (n c n' c' : Nat), (binOp .eql 22 (.slice a n c) (.slice none n' c')).run Try.prog w = .ok (.bool a.isNone) w := fun w a n c n' c' => Lib.run_eql_slice_nil w _ _ a n c n' c' Try.underlying22
  cases sa with
  | none =>
    obtain ⟨rfl, hx⟩ := HA.out.1 rfl
    have hn0 : n = 0 := by rw [← H1.out, hx]; rfl
    subst hn0 hx
    clear HA H1
    go_enter Try.func17, Try.ntmps17
    go_wp2_with fail
    go_ret
    exact ⟨_, rfl, World.ownsRow_nil _ _ _ _, Below.refl _ _⟩
  | some a =>
    have hown : (w.alloc (.cells #[] 43)).ownsRow w.heap.size 43 2 (.slice (some ⟨w.heap.size, 0, none⟩) 0 0) 0 [] := World.ownsRow_made w #[] 0 (Nat.le_refl _) (by decide) rfl
    have HO := Lib.hid hown
    have HA2 := Lib.hid (HA.out.step (below_alloc w (.cells #[] 43)))
    clear hown
    go_enter Try.func17, Try.ntmps17
    go_wp2_with (first
      | (at_builtin; refine wpList_append_at shF rfl _ _ 22 rfl w.heap.size 43 i0 _ 2 Try.underlying22 hi hz0 hz1 hz2 rfl (.slice (some ⟨w.heap.size, 0, none⟩) 0 0) [] xs rfl HO.out (some a) n c rfl H1 HA2.out ?h63 ?hby ?hba ?_)
      | fail)
    case h63 => simp; unfold maxLen; omega
    case hby => simp; omega
    case hba => simp
    intro ra rc w3 own3 grow3 _
    have B3 : Below w.heap.size w w3 := (below_alloc w _).grown grow3 (by simp) (fun k hk => by simp [Value.ownBlock] at hk; omega)
    have O3 := Lib.hid own3
    clear own3 grow3
    go_wp2_with fail
    go_ret
    exact ⟨_, rfl, O3.out, B3⟩
end Go.Proofs.Yteeejkcehajokaa
