/- Package uart: the walks of corebellref.PRight, SameUart; slices.Clone at bytes; uart.check. -/
import Derived.Test.YtalcfbdnnlapnaaUarA
import Derived.Lib.SliceRun
namespace Go.Proofs.Ytalcfbdnnlapnaa
open Go.RowKit

set_option maxHeartbeats 1000000 in
set_option maxRecDepth 100000 in
theorem pright_W (ia oa : Option Addr) (n ic m oc : Nat) (lost : Int) (asks : Bool) (w : World) : Calls Try.prog 11 #[.agg #[.slice ia n ic, .slice oa m oc, .int .i64 lost, .bool asks]] w fun e w' => e = .returned (.bool (rgt n m lost asks)) ∧ Below w.heap.size w w' := by
  have B0 := below_alloc w (.cells #[.slice ia n ic, .slice oa m oc, .int .i64 lost, .bool asks] 24)
  by_cases h1 : n ≤ 16
  · have h1' : decide ((n : Int) < 17) = true := by simp; omega
    by_cases h2 : m ≤ 16
    · have h2' : decide ((m : Int) < 17) = true := by simp; omega
      by_cases h3 : 0 ≤ lost
      · by_cases h4 : lost ≤ 1099511627776
        · by_cases h5 : 0 < n
          · have h5' : ((n : Int) != 0) = true := by simp; omega
            have e1 : rgt n m lost asks = asks := by unfold rgt; cases asks <;> simp [h1, h2, h3, h4, h5]
            rw [e1]
            clear e1
            cases asks
            all_goals go_enter Try.func11, Try.ntmps11
            all_goals go_wp2_with fail
            all_goals go_ret
            all_goals exact ⟨rfl, B0⟩
          · obtain rfl : n = 0 := by omega
            have e1 : rgt 0 m lost asks = !asks := by unfold rgt; cases asks <;> simp [h2, h3, h4]
            rw [e1]
            clear e1
            cases asks
            all_goals go_enter Try.func11, Try.ntmps11
            all_goals go_wp2_with fail
            all_goals go_ret
            all_goals exact ⟨rfl, B0⟩
        · have e1 : rgt n m lost asks = false := decide_eq_false (fun h => h4 h.2.2.2.1)
          rw [e1]
          clear e1
          go_enter Try.func11, Try.ntmps11
          go_wp2_with fail
          go_ret
          exact ⟨rfl, B0⟩
      · have e1 : rgt n m lost asks = false := decide_eq_false (fun h => h3 h.2.2.1)
        rw [e1]
        clear e1
        go_enter Try.func11, Try.ntmps11
        go_wp2_with fail
        go_ret
        exact ⟨rfl, B0⟩
    · have h2' : decide ((m : Int) < 17) = false := by simp; omega
      have e1 : rgt n m lost asks = false := decide_eq_false (fun h => h2 h.2.1)
      rw [e1]
      clear e1
      go_enter Try.func11, Try.ntmps11
      go_wp2_with fail
      go_ret
      exact ⟨rfl, B0⟩
  · have h1' : decide ((n : Int) < 17) = false := by simp; omega
    have e1 : rgt n m lost asks = false := decide_eq_false (fun h => h1 h.1)
    rw [e1]
    clear e1
    go_enter Try.func11, Try.ntmps11
    go_wp2_with fail
    go_ret
    exact ⟨rfl, B0⟩
set_option maxHeartbeats 1000000 in
set_option maxRecDepth 100000 in
theorem same_U {xa xb ya yb : Option Addr} {xc xd yc yd n m : Nat} {inn out : List UInt8} (lost : Int) (asks : Bool) (w : World) (hn : Hid (inn.length = n)) (hm : Hid (out.length = m)) (H1 : Hid (shB.At w xa xc inn)) (H2 : Hid (shB.At w xb xd out)) (H3 : Hid (shB.At w ya yc inn)) (H4 : Hid (shB.At w yb yd out)) :
    Calls Try.prog 12 #[.agg #[.slice xa n xc, .slice xb m xd, .int .i64 lost, .bool asks], .agg #[.slice ya n yc, .slice yb m yd, .int .i64 lost, .bool asks]] w fun e w' => e = .returned (.bool true) ∧ Below w.heap.size w w' := by
  have c1 : ∀ A B, (convert 22 9 (.slice xa n xc)).run Try.prog ((w.alloc A).alloc B) = .ok (.string (strB inn)) ((w.alloc A).alloc B) := fun A B => conv_at (H1.out.step (below_two w A B)) hn.out
  have c2 : ∀ A B, (convert 22 9 (.slice xb m xd)).run Try.prog ((w.alloc A).alloc B) = .ok (.string (strB out)) ((w.alloc A).alloc B) := fun A B => conv_at (H2.out.step (below_two w A B)) hm.out
  have c3 : ∀ A B, (convert 22 9 (.slice ya n yc)).run Try.prog ((w.alloc A).alloc B) = .ok (.string (strB inn)) ((w.alloc A).alloc B) := fun A B => conv_at (H3.out.step (below_two w A B)) hn.out
  have c4 : ∀ A B, (convert 22 9 (.slice yb m yd)).run Try.prog ((w.alloc A).alloc B) = .ok (.string (strB out)) ((w.alloc A).alloc B) := fun A B => conv_at (H4.out.step (below_two w A B)) hm.out
  have hb := fun A B => below_two w A B
  go_enter Try.func12, Try.ntmps12
  go_wp2_with fail
  go_ret
  exact ⟨rfl, hb _ _⟩
set_option maxHeartbeats 1000000 in
set_option maxRecDepth 100000 in
theorem clone_B (xs : List UInt8) (sa : Option Addr) (n c : Nat) (w : World) (H1 : Hid (xs.length = n)) (HA : Hid (shB.At w sa c xs)) (hn : n ≤ 140737488351232) :
    Calls Try.prog 18 #[.slice sa n c] w fun e w' => ∃ ra rc, e = .returned (.slice ra n rc) ∧ w'.ownsRow w.heap.size 5 1 (.slice ra n rc) n (shB.flat xs) ∧ Below w.heap.size w w' := by
  obtain ⟨i0, hi, hz0, hz1, hz2⟩ := info_parts' info_byte
  have qn : ∀ (w : World) (a : Option Addr) (n c n' c' : Nat), (binOp .eql 22 (.slice a n c) (.slice none n' c')).run Try.prog w = .ok (.bool a.isNone) w := fun w a n c n' c' => Lib.run_eql_slice_nil w _ _ a n c n' c' Try.underlying22
  cases sa with
  | none =>
    obtain ⟨rfl, hx⟩ := HA.out.1 rfl
    have hn0 : n = 0 := by rw [← H1.out, hx]; rfl
    subst hn0 hx
    clear HA H1
    go_enter Try.func18, Try.ntmps18
    go_wp2_with fail
    go_ret
    exact ⟨_, _, rfl, World.ownsRow_nil _ _ _ _, Below.refl _ _⟩
  | some a =>
    have hown : (w.alloc (.cells #[] 5)).ownsRow w.heap.size 5 1 (.slice (some ⟨w.heap.size, 0, none⟩) 0 0) 0 [] := World.ownsRow_made w #[] 0 (Nat.le_refl _) (by decide) rfl
    have HO := Lib.hid hown
    have HA2 := Lib.hid (HA.out.step (below_alloc w (.cells #[] 5)))
    clear hown
    go_enter Try.func18, Try.ntmps18
    go_wp2_with (first
      | (at_builtin; refine wpList_append_at shB rfl _ _ 22 rfl w.heap.size 5 i0 _ 1 Try.underlying22 hi hz0 hz1 hz2 rfl (.slice (some ⟨w.heap.size, 0, none⟩) 0 0) [] xs rfl HO.out (some a) n c rfl H1 HA2.out ?h63 ?hby ?hba ?_)
      | fail)
    case h63 => simp; unfold maxLen; omega
    case hby => simp; omega
    case hba => simp
    intro ra rc w3 own3 grow3 _
    have B3 : Below w.heap.size w w3 := (below_alloc w _).grown grow3 (by simp) (fun k hk => by simp [Value.ownBlock] at hk; omega)
    have O3 := Lib.hid own3
    clear own3 grow3
    go_wp2_with fail
    go_ret
    exact ⟨_, _, rfl, O3.out, B3⟩
/-- A reading of what lay there before stays while a row that was made later grows. -/
theorem Shape.At.same_grown {α : Type} {S : Shape α} {w0 w w' : World} {ad : Option Addr} {cap e n sz : Nat} {l : List α} {v : Value} {xs : List Value} (h : S.At w ad cap l) (ho : w.ownsRow w0.heap.size e sz v n xs) (hg : w.grownBy w' v.ownBlock) (h0 : S.At w0 ad cap l) : S.At w' ad cap l :=
  ⟨h.1, fun h1 => by
    obtain ⟨b, off, e, hlt, hl⟩ := h.2 h1
    obtain ⟨b0, off0, e', hlt0, _⟩ := h0.2 h1
    rw [e] at e'
    cases e'
    refine ⟨b, off, e, Nat.lt_of_lt_of_le hlt hg.size, fun k hk => ?_⟩
    have : w'.heap[b]? = w.heap[b]? := hg.block b hlt (fun q => by have := (own_lt ho q.symm).1; omega)
    exact (World.cell?_of_block (a := ⟨b, off + k, none⟩) this).trans (hl k hk)⟩
/-- The error, by numbers. -/
def errU (n m lost : Nat) (k : Int) : Int :=
  if k < 1 ∨ 4 < k then 5
  else if k = 1 then if 16 ≤ n ∧ mxB ≤ lost then 4 else 0
  else if k = 2 then if n = 0 then 3 else 0
  else if k = 3 then if 16 ≤ m then 7 else 0
  else if m = 0 then 3 else 0
theorem nil_len {α : Type} {l : List α} : l = [] ↔ l.length = 0 := ⟨fun h => by rw [h]; rfl, List.eq_nil_of_length_eq_zero⟩
theorem errU_eq (s : StB) (o : UaT) : errB s o = errU s.inn.length s.out.length s.lost o.k := by
  unfold errB errU
  simp only [nil_len]
set_option maxHeartbeats 1000000 in
set_option maxRecDepth 100000 in
theorem check_W (ia oa : Option Addr) (n ic m oc lost : Nat) (asks : Bool) (k b : Int) (w : World) (hn : n ≤ 16) (hm : m ≤ 16) (hl : lost ≤ 1099511627776) (x : Int) (hx : Hid (errU n m lost k = x)) :
    Calls Try.prog 17 #[.agg #[.slice ia n ic, .slice oa m oc, .int .i64 (lost : Nat), .bool asks], .agg #[.int .i64 k, .int .u8 b]] w fun e w' => e = .returned (.int .i64 x) ∧ Below w.heap.size w w' := by
  have hb := Lib.hid (fun A B => below_two w A B)
  by_cases k1 : k = 1
  · subst k1
    by_cases f : n = 16
    · by_cases g : lost = 1099511627776
      · have e1 : x = 4 := by rw [← hx.out]; unfold errU mxB; rw [if_neg (by omega), if_pos rfl, if_pos ⟨by omega, by omega⟩]
        subst e1 f g
        go_enter Try.func17, Try.ntmps17
        go_wp2_with (first
          | (go_at_call 21; (with_reducible refine (full_W _ _ _ _ true (Lib.hid rfl)).mono ?_); rintro e w1 ⟨rfl, rfl⟩)
          | fail)
        go_ret
        exact ⟨rfl, hb.out _ _⟩
      · have e1 : x = 0 := by rw [← hx.out]; unfold errU mxB; rw [if_neg (by omega), if_pos rfl, if_neg (show ¬ (16 ≤ n ∧ 1099511627776 ≤ lost) from fun h => by omega)]
        have g2 : ((lost : Int) == 1099511627776) = false := by simp; omega
        subst e1 f
        go_enter Try.func17, Try.ntmps17
        go_wp2_with (first
          | (go_at_call 21; (with_reducible refine (full_W _ _ _ _ true (Lib.hid rfl)).mono ?_); rintro e w1 ⟨rfl, rfl⟩)
          | fail)
        go_ret
        exact ⟨rfl, hb.out _ _⟩
    · have e1 : x = 0 := by rw [← hx.out]; unfold errU mxB; rw [if_neg (by omega), if_pos rfl, if_neg (show ¬ (16 ≤ n ∧ 1099511627776 ≤ lost) from fun h => by omega)]
      subst e1
      go_enter Try.func17, Try.ntmps17
      go_wp2_with (first
        | (go_at_call 21; (with_reducible refine (full_W _ _ _ _ false (Lib.hid (decide_eq_false f))).mono ?_); rintro e w1 ⟨rfl, rfl⟩)
        | fail)
      go_ret
      exact ⟨rfl, hb.out _ _⟩
  by_cases k2 : k = 2
  · subst k2
    have e1 : Hid ((if n = 0 then 3 else 0) = x) := Lib.hid (by have h := hx.out; unfold errU at h; rw [if_neg (by omega), if_neg (by omega), if_pos rfl] at h; exact h)
    go_enter Try.func17, Try.ntmps17
    go_wp2_with (first
      | (go_at_call 22; (with_reducible refine (first_W _ _ _ _ x e1).mono ?_); rintro e w1 ⟨rfl, rfl⟩)
      | fail)
    go_ret
    exact ⟨rfl, hb.out _ _⟩
  by_cases k3 : k = 3
  · subst k3
    by_cases f : m = 16
    · have e1 : x = 7 := by rw [← hx.out]; unfold errU; rw [if_neg (by omega), if_neg (by omega), if_neg (by omega), if_pos rfl, if_pos (by omega)]
      subst e1 f
      go_enter Try.func17, Try.ntmps17
      go_wp2_with (first
        | (go_at_call 21; (with_reducible refine (full_W _ _ _ _ true (Lib.hid rfl)).mono ?_); rintro e w1 ⟨rfl, rfl⟩)
        | fail)
      go_ret
      exact ⟨rfl, hb.out _ _⟩
    · have e1 : x = 0 := by rw [← hx.out]; unfold errU; rw [if_neg (by omega), if_neg (by omega), if_neg (by omega), if_pos rfl, if_neg (by omega)]
      subst e1
      go_enter Try.func17, Try.ntmps17
      go_wp2_with (first
        | (go_at_call 21; (with_reducible refine (full_W _ _ _ _ false (Lib.hid (decide_eq_false f))).mono ?_); rintro e w1 ⟨rfl, rfl⟩)
        | fail)
      go_ret
      exact ⟨rfl, hb.out _ _⟩
  by_cases k4 : k = 4
  · subst k4
    have e1 : Hid ((if m = 0 then 3 else 0) = x) := Lib.hid (by have h := hx.out; unfold errU at h; rw [if_neg (by omega), if_neg (by omega), if_neg (by omega), if_neg (by omega)] at h; exact h)
    go_enter Try.func17, Try.ntmps17
    go_wp2_with (first
      | (go_at_call 22; (with_reducible refine (first_W _ _ _ _ x e1).mono ?_); rintro e w1 ⟨rfl, rfl⟩)
      | fail)
    go_ret
    exact ⟨rfl, hb.out _ _⟩
  · have e1 : x = 5 := by rw [← hx.out]; unfold errU; rw [if_pos (by omega)]
    have g1 : (k == 1) = false := by simpa using k1
    have g2 : (k == 2) = false := by simpa using k2
    have g3 : (k == 3) = false := by simpa using k3
    have g4 : (k == 4) = false := by simpa using k4
    subst e1
    go_enter Try.func17, Try.ntmps17
    go_wp2_with fail
    go_ret
    exact ⟨rfl, hb.out _ _⟩
end Go.Proofs.Ytalcfbdnnlapnaa
