/- The walk of line.Right: it tells whether lines are right. -/
import Derived.Test.YtmldedkmmhnihaaLinA
namespace Go.Proofs.Ytmldedkmmhnihaa
open Go.RowKit

set_option maxHeartbeats 4000000 in
set_option maxRecDepth 100000 in
theorem right_big (ad : Option Addr) (len cap : Nat) (w : World) (h : 24 < len) (hl : len ≤ 9223372036854775807) :
    Calls Try.prog 13 #[.slice ad len cap] w fun e w' => e = .returned (.bool false) ∧ Below w.heap.size w w' := by
  have hd : decide (24 < (len : Int)) = true := by simp; omega
  go_enter Try.func13, Try.ntmps13
  go_wp2
  go_ret
  exact ⟨rfl, Below.refl _ _⟩
set_option maxHeartbeats 4000000 in
set_option maxRecDepth 100000 in
theorem right_some (b off cap : Nat) (l : List PinT) (w : World) (hb : b < w.heap.size) (h24 : l.length ≤ 24) (HL : Hid (LiesP w b off l)) :
    Calls Try.prog 13 #[.slice (some ⟨b, off, none⟩) l.length cap] w fun e w' => e = .returned (.bool (pinsOk l)) ∧ Below w.heap.size w w' := by
  have hd : decide (24 < (l.length : Int)) = false := by simp; omega
  go_enter Try.func13, Try.ntmps13
  go_wp2_with fail
  go_loopw [10] (fun i wr => ∃ j : Nat, j ≤ l.length ∧ i = .int .i64 j ∧ Below w.heap.size w wr ∧ Hid (∀ m, m < j → (l.getD m pin0).ok = true)) (fun i _ => l.length - (intOf i).toNat)
  case atStart => exact ⟨0, Nat.zero_le _, rfl, Below.refl _ _, fun m hm => by omega⟩
  case round =>
    obtain ⟨j, hj, rfl, BB, HD⟩ := hrel
    by_cases hlt : j < l.length
    · obtain ⟨p, hp⟩ : ∃ p, l.getD j pin0 = p := ⟨_, rfl⟩
      obtain ⟨e0, e1, e2, e3, e4, e5, e6⟩ := (HL.out.step BB hb).at j hlt p hp
      have HP := Lib.hid hp
      have LL := BB.size
      clear hp
      obtain ⟨b1, hb1⟩ : ∃ b1 : Bool, p.inr = b1 := ⟨_, rfl⟩
      obtain ⟨b2, hb2⟩ : ∃ b2 : Bool, p.cons = b2 := ⟨_, rfl⟩
      have HB1 := Lib.hid hb1
      have HB2 := Lib.hid hb2
      cases b1
      · go_wp2_with (first
          | (go_at_call 27; (with_reducible refine (inRange_R p _).mono ?_); rintro e w2 ⟨rfl, hb2'⟩; rw [hb1]; have G := bat' hb2' wr.heap.size (by first | omega | (simp; done) | (simp; omega)); have BX := pstep (BB.alloc LL _) hb2'; clear hb2')
          | fail)
        go_ret
        exact ⟨by rw [pins_bad hlt (by rw [HP.out, ok_parts, HB1.out]; rfl)]; rfl, BX⟩
      · cases b2
        · go_wp2_with (first
            | (go_at_call 27; (with_reducible refine (inRange_R p _).mono ?_); rintro e w2 ⟨rfl, hb2'⟩; rw [hb1]; have G := bat' hb2' wr.heap.size (by first | omega | (simp; done) | (simp; omega)); have BX := pstep (BB.alloc LL _) hb2'; clear hb2')
            | (go_at_call 28; (with_reducible refine (consistent_R p _).mono ?_); rintro e w3 ⟨rfl, hb3'⟩; rw [hb2]; have BY := pstep BX hb3'; clear hb3')
            | fail)
          go_ret
          exact ⟨by rw [pins_bad hlt (by rw [HP.out, ok_parts, HB2.out, Bool.and_false])]; rfl, BY⟩
        · go_wp2_with (first
            | (go_at_call 27; (with_reducible refine (inRange_R p _).mono ?_); rintro e w2 ⟨rfl, hb2'⟩; rw [hb1]; have G := bat' hb2' wr.heap.size (by first | omega | (simp; done) | (simp; omega)); have BX := pstep (BB.alloc LL _) hb2'; clear hb2')
            | (go_at_call 28; (with_reducible refine (consistent_R p _).mono ?_); rintro e w3 ⟨rfl, hb3'⟩; rw [hb2]; have BY := pstep BX hb3'; clear hb3')
            | fail)
          refine ⟨⟨j + 1, by omega, by go_num, BY, fun q hq => ?_⟩, by simp [intOf]; omega⟩
          by_cases hqj : q = j
          · rw [hqj, HP.out, ok_parts, HB1.out, HB2.out]
            rfl
          · exact HD.out q (by omega)
    · have hjl : j = l.length := by omega
      subst hjl
      clear hlt
      go_wp2_with fail
      go_ret
      exact ⟨by rw [pins_ok h24 HD.out]; rfl, BB⟩
theorem right_none (ad : Option Addr) (cap : Nat) (w : World) :
    Calls Try.prog 13 #[.slice ad 0 cap] w fun e w' => e = .returned (.bool true) ∧ Below w.heap.size w w' := by
  go_enter Try.func13, Try.ntmps13
  go_wp2_with fail
  refine wp_loop_rounds 1 ?_
  rw [rounds_succ]
  go_wp2_with fail
  go_ret
  exact ⟨rfl, Below.refl _ _⟩
end Go.Proofs.Ytmldedkmmhnihaa
