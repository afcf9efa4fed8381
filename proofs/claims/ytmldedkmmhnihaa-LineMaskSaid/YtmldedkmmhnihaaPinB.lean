/- The walk of corebellref.CRight: it tells whether lines are right. -/
import Derived.Test.YtmldedkmmhnihaaPinA
namespace Go.Proofs.Ytmldedkmmhnihaa
open Go.RowKit

/-- The cell of a field. -/
def pinCell (p : PinT) (i : Nat) : Value := if i = 0 then .int .i64 p.core else if i = 1 then .int .i64 p.vec else if i = 2 then .bool p.level else if i = 3 then .bool p.masked else if i = 4 then .bool p.up else if i = 5 then .bool p.kept else .bool p.sent
def pin0 : PinT := ⟨0, 0, false, false, false, false, false⟩
/-- The lines as cells. -/
def LiesP (w : World) (b off : Nat) (l : List PinT) : Prop := ∀ j, j < l.length → ∀ i, i < 7 → w.cell? ⟨b, off + j * 7 + i, none⟩ = some (pinCell (l.getD j pin0) i)
theorem LiesP.step {w w' : World} {b off M : Nat} {l : List PinT} (h : LiesP w b off l) (hb : Below M w w') (hM : b < M) : LiesP w' b off l := fun j hj i hi => (hb.cell (p := ⟨b, off + j * 7 + i, none⟩) hM).trans (h j hj i hi)
theorem LiesP.at {w : World} {b off : Nat} {l : List PinT} (h : LiesP w b off l) (j : Nat) (hj : j < l.length) (p : PinT) (hp : l.getD j pin0 = p) :
    w.cell? ⟨b, off + j * 7, none⟩ = some (.int .i64 p.core) ∧ w.cell? ⟨b, off + j * 7 + 1, none⟩ = some (.int .i64 p.vec) ∧ w.cell? ⟨b, off + j * 7 + 2, none⟩ = some (.bool p.level) ∧ w.cell? ⟨b, off + j * 7 + 3, none⟩ = some (.bool p.masked) ∧ w.cell? ⟨b, off + j * 7 + 4, none⟩ = some (.bool p.up) ∧ w.cell? ⟨b, off + j * 7 + 5, none⟩ = some (.bool p.kept) ∧ w.cell? ⟨b, off + j * 7 + 6, none⟩ = some (.bool p.sent) := by
  subst hp
  exact ⟨h j hj 0 (by decide), h j hj 1 (by decide), h j hj 2 (by decide), h j hj 3 (by decide), h j hj 4 (by decide), h j hj 5 (by decide), h j hj 6 (by decide)⟩
def pinsOk (l : List PinT) : Bool := decide (l.length ≤ 24) && l.all PinT.ok
theorem pins_bad {l : List PinT} {j : Nat} (hj : j < l.length) (h : (l.getD j pin0).ok = false) : pinsOk l = false := by
  unfold pinsOk
  rw [Bool.and_eq_false_iff]
  right
  rw [List.all_eq_false]
  refine ⟨l[j], List.getElem_mem hj, ?_⟩
  rw [List.getD_eq_getElem?_getD, List.getElem?_eq_getElem hj] at h
  simpa using h
theorem pins_ok {l : List PinT} (h24 : l.length ≤ 24) (h : ∀ j, j < l.length → (l.getD j pin0).ok = true) : pinsOk l = true := by
  unfold pinsOk
  rw [Bool.and_eq_true, decide_eq_true_eq, List.all_eq_true]
  refine ⟨h24, fun x hx => ?_⟩
  obtain ⟨j, hj, e⟩ := List.getElem_of_mem hx
  have := h j hj
  rw [List.getD_eq_getElem?_getD, List.getElem?_eq_getElem hj] at this
  rw [← e]
  simpa using this

set_option maxHeartbeats 4000000 in
set_option maxRecDepth 100000 in
theorem cright_big (ad : Option Addr) (len cap : Nat) (w : World) (h : 24 < len) (hl : len ≤ 9223372036854775807) :
    Calls Try.prog 8 #[.slice ad len cap] w fun e w' => e = .returned (.bool false) ∧ Below w.heap.size w w' := by
  have hd : decide (24 < (len : Int)) = true := by simp; omega
  go_enter Try.func8, Try.ntmps8
  go_wp2
  go_ret
  exact ⟨rfl, Below.refl _ _⟩
set_option maxHeartbeats 4000000 in
set_option maxRecDepth 100000 in
theorem cright_some (b off cap : Nat) (l : List PinT) (w : World) (hb : b < w.heap.size) (h24 : l.length ≤ 24) (HL : Hid (LiesP w b off l)) :
    Calls Try.prog 8 #[.slice (some ⟨b, off, none⟩) l.length cap] w fun e w' => e = .returned (.bool (pinsOk l)) ∧ Below w.heap.size w w' := by
  have hd : decide (24 < (l.length : Int)) = false := by simp; omega
  go_enter Try.func8, Try.ntmps8
  go_wp2_with fail
  go_loopw [11] (fun i wr => ∃ j : Nat, j ≤ l.length ∧ i = .int .i64 j ∧ Below w.heap.size w wr ∧ Hid (∀ m, m < j → (l.getD m pin0).ok = true)) (fun i _ => l.length - (intOf i).toNat)
  case atStart => exact ⟨0, Nat.zero_le _, rfl, Below.refl _ _, fun m hm => by omega⟩
  case round =>
    obtain ⟨j, hj, rfl, BB, HD⟩ := hrel
    by_cases hlt : j < l.length
    · obtain ⟨p, hp⟩ : ∃ p, l.getD j pin0 = p := ⟨_, rfl⟩
      obtain ⟨e0, e1, e2, e3, e4, e5, e6⟩ := (HL.out.step BB hb).at j hlt p hp
      have HP := Lib.hid hp
      have LL := BB.size
      clear hp
      obtain ⟨c, v, lv, m, u, k, s⟩ := p
      obtain ⟨b1, hb1⟩ : ∃ b1 : Bool, decide (0 ≤ c) = b1 := ⟨_, rfl⟩
      obtain ⟨b2, hb2⟩ : ∃ b2 : Bool, decide (c < 8) = b2 := ⟨_, rfl⟩
      obtain ⟨b3, hb3⟩ : ∃ b3 : Bool, decide (32 ≤ v) = b3 := ⟨_, rfl⟩
      obtain ⟨b4, hb4⟩ : ∃ b4 : Bool, decide (v < 256) = b4 := ⟨_, rfl⟩
      go_wp2_with fail
      all_goals first
        | (go_ret; exact ⟨by rw [pins_bad hlt (by rw [HP.out]; simp [PinT.ok, *])]; rfl, by repeat (first | (with_reducible assumption) | (with_reducible exact Below.refl _ _) | ((with_reducible refine Below.setCell ?_ ?_ _); rotate_left; focus (first | (simp; done) | omega | (simp; omega))) | ((with_reducible refine Below.alloc ?_ ?_ _); rotate_left; focus (first | (simp; done) | omega | (simp; omega))))⟩)
        | (refine ⟨⟨j + 1, by omega, by go_num, by repeat (first | (with_reducible assumption) | (with_reducible exact Below.refl _ _) | ((with_reducible refine Below.setCell ?_ ?_ _); rotate_left; focus (first | (simp; done) | omega | (simp; omega))) | ((with_reducible refine Below.alloc ?_ ?_ _); rotate_left; focus (first | (simp; done) | omega | (simp; omega)))), fun q hq => ?_⟩, by simp [intOf]; omega⟩
           by_cases hqj : q = j
           · rw [hqj, HP.out]
             simp [PinT.ok, *]
           · exact HD.out q (by omega))
    · have hjl : j = l.length := by omega
      subst hjl
      clear hlt
      go_wp2_with fail
      go_ret
      exact ⟨by rw [pins_ok h24 HD.out]; rfl, BB⟩
theorem cright_none (ad : Option Addr) (cap : Nat) (w : World) :
    Calls Try.prog 8 #[.slice ad 0 cap] w fun e w' => e = .returned (.bool true) ∧ Below w.heap.size w w' := by
  go_enter Try.func8, Try.ntmps8
  go_wp2_with fail
  refine wp_loop_rounds 1 ?_
  rw [rounds_succ]
  go_wp2_with fail
  go_ret
  exact ⟨rfl, Below.refl _ _⟩
end Go.Proofs.Ytmldedkmmhnihaa
