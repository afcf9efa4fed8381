/- The walk of NestBack. -/
import Derived.Test.YteeejkcehajokaaNesO
namespace Go.Proofs.Yteeejkcehajokaa
open Go.RowKit

/-- What was begun can be ended, and leaves all as it was. -/
theorem back_of {c d : CoreT} {p q : Int} {irq : Bool} (hp : (p = 1 ∧ q = 2 ∧ irq = false) ∨ (p = 3 ∧ q = 4 ∧ irq = true)) (h : stepNN c p = (d, 0)) : RtN d ∧ d.on = false ∧ stepNN d q = (c, 0) := by
  unfold stepNN at h
  by_cases e : errN (okN c) c p = 0
  · rw [if_pos e] at h
    have hc : okN c = true := by
      cases k : okN c with
      | true => rfl
      | false => rw [k, errN_no] at e; cases e
    have hr := okN_true.1 hc
    rw [hc] at e
    have hd := hr.step e
    simp only [Prod.mk.injEq, and_true] at h
    rw [h] at hd
    rcases hp with ⟨rfl, rfl, rfl⟩ | ⟨rfl, rfl, rfl⟩
    · rw [new_save] at h
      obtain ⟨h1, h2⟩ := save_back (c := c)
      rw [h] at h1 h2
      refine ⟨hd, by rw [← h]; rfl, ?_⟩
      unfold stepNN
      rw [okN_true.2 hd, if_pos h1, h2]
    · rw [new_enter] at h
      obtain ⟨h1, h2⟩ := enter_back (c := c)
      rw [h] at h1 h2
      refine ⟨hd, by rw [← h]; rfl, ?_⟩
      unfold stepNN
      rw [okN_true.2 hd, if_pos h1, h2]
  · rw [if_neg e] at h
    simp only [Prod.mk.injEq] at h
    exact absurd h.2 e
/-- The core's box and the pairs. -/
structure LpB (w wx : World) (on : Bool) (v : Value) (T : Nat) : Prop where
  b : Below w.heap.size w wx
  c : wx.heap[w.heap.size]? = some (.cells #[.bool on, v] 24 (0, 0))
  t : wx.heap[T]? = some (.cells #[.int .i64 1, .int .i64 2, .int .i64 3, .int .i64 4] 37 (0, 0))
theorem LpB.step {w wx wy : World} {on : Bool} {v : Value} {T : Nat} (h : LpB w wx on v T) (hb : Below wx.heap.size wx wy) : LpB w wy on v T := ⟨pstep h.b hb, heap_step h.c hb, heap_step h.t hb⟩
theorem LpB.cells {w wx : World} {on : Bool} {v : Value} {T : Nat} (h : LpB w wx on v T) : (wx.cell? ⟨w.heap.size, 0, none⟩ = some (.bool on) ∧ wx.cell? ⟨w.heap.size, 1, none⟩ = some v) ∧ (wx.cell? ⟨T, 0, none⟩ = some (.int .i64 1) ∧ wx.cell? ⟨T, 1, none⟩ = some (.int .i64 2) ∧ wx.cell? ⟨T, 2, none⟩ = some (.int .i64 3) ∧ wx.cell? ⟨T, 3, none⟩ = some (.int .i64 4)) ∧ w.heap.size < wx.heap.size ∧ T < wx.heap.size :=
  ⟨pair_at h.c, by refine ⟨?_, ?_, ?_, ?_⟩ <;> (rw [cell_of_row _ _ _ _ _ _ h.t]; rfl), heap_lt h.c, heap_lt h.t⟩
set_option maxHeartbeats 2000000 in
set_option maxRecDepth 100000 in
theorem back_N {ad : Option Addr} {cap n : Nat} {l : List FrT} (on : Bool) (w : World) (HA : Hid (shF.At w ad cap l)) (hm : Hid (l.length = n)) (hn : n ≤ 9223372036854775807) :
    Calls Try.prog 4 #[.agg #[.bool on, .slice ad n cap]] w fun e w' => e = .returned (.bool true) ∧ Below w.heap.size w w' := by
  have B0 := Lib.hid (below_alloc w (.cells #[.bool on, .slice ad n cap] 24))
  have C0 := Lib.hid (heap_alloc_new w (.cells #[.bool on, .slice ad n cap] 24))
  go_enter Try.func4, Try.ntmps4
  go_wp2_with (first
    | (go_at_call 15; (with_reducible refine (alive7_N _).mono ?_); rintro e w1 ⟨rfl, hb⟩; have L1 := Lib.hid (LpB.mk (pstep (pstep B0.out hb) (below_alloc w1 (.cells #[.int .i64 1, .int .i64 2, .int .i64 3, .int .i64 4] 37))) (heap_step (heap_step C0.out hb) (below_alloc w1 _)) (heap_alloc_new w1 _)); clear hb)
    | fail)
  go_loopw [15] (fun i wr => ∃ I : Int, (I = 0 ∨ I = 1 ∨ I = 2) ∧ i = .int .i64 I ∧ Hid (LpB w wr on (.slice ad n cap) w1.heap.size)) (fun i _ => 2 - (intOf i).toNat)
  case atStart => exact ⟨0, Or.inl rfl, rfl, L1⟩
  case round =>
    obtain ⟨I, hI, rfl, HL⟩ := hrel
    have G0 := HL.out.cells
    have HAr := Lib.hid (HA.out.step HL.out.b)
    rcases hI with rfl | rfl | rfl
    · have LA := Lib.hid (HL.out.step (below_alloc wr (.cells #[.int .i64 1, .int .i64 2] 37)))
      have GA := LA.out.cells
      have KA := Lib.hid (heap_alloc_new wr (.cells #[.int .i64 1, .int .i64 2] 37))
      have HAA := Lib.hid (HAr.out.step (below_alloc wr (.cells #[.int .i64 1, .int .i64 2] 37)))
      obtain ⟨⟨⟨on2, l2⟩, x⟩, hs⟩ : ∃ r, stepNN ⟨on, l⟩ 1 = r := ⟨_, rfl⟩
      have HS := Lib.hid hs
      obtain ⟨j2, hj2⟩ : ∃ j2, l2.length = j2 := ⟨_, rfl⟩
      have HJ := Lib.hid hj2
      clear hj2
      by_cases hx0 : x = 0
      · subst hx0
        obtain ⟨hrd, hon, hbk⟩ := back_of (Or.inl ⟨rfl, rfl, rfl⟩) hs
        simp only at hon
        subst hon
        have HRD := Lib.hid hrd
        have HBK := Lib.hid hbk
        have h400 : j2 ≤ 400 := by have := hrd.len; simp only [HJ.out] at this; exact this
        clear hs hrd hbk
        go_wp2_with (first
          | (go_at_call 7; (with_reducible refine (step_N on 1 _ HAA hm hn false l2 j2 0 HS HJ).mono ?_); rintro e w3 ⟨ra, rc, rfl, hat, hb⟩; have B4 := below_alloc w3 (.cells #[.bool false, .slice ra j2 rc] 24); have L4 := Lib.hid ((LA.out.step hb).step B4); have G4 := L4.out.cells; have K4 := pair_at (heap_step (heap_step KA.out hb) B4); have HA4 := Lib.hid ((HAA.out.step hb).step B4); have HD4 := Lib.hid (hat.step B4); have D4 := Lib.hid (heap_alloc_new w3 (.cells #[.bool false, .slice ra j2 rc] 24)); have P4 := pair_at D4.out; clear hb hat B4)
          | (go_at_call 7; (with_reducible refine (step_N false 2 _ HD4 HJ (by omega) on l n 0 HBK hm).mono ?_); rintro e w5 ⟨ra5, rc5, rfl, hat, hb⟩; have B6 := below_alloc w5 (.cells #[.bool on, .slice ra5 n rc5] 24); have L6 := Lib.hid ((L4.out.step hb).step B6); have G6 := L6.out.cells; have HA6 := Lib.hid ((HA4.out.step hb).step B6); have HD6 := Lib.hid ((HD4.out.step hb).step B6); have D6 := Lib.hid (heap_step (heap_step D4.out hb) B6); have P6 := pair_at D6.out; have HB6 := Lib.hid (hat.step B6); clear hb hat B6)
          | (go_at_call 13; (with_reducible refine (same_N on _ hm HB6 HA6 hn).mono ?_); rintro e w7 ⟨rfl, hb⟩; have L7 := Lib.hid (L6.out.step hb); have HD7 := Lib.hid (HD6.out.step hb); have P7 := pair_at (heap_step D6.out hb); clear hb)
          | (go_at_call 11; (with_reducible refine (right_N false _ HD7 HJ (by omega)).mono ?_); rintro e w8 ⟨hr, hb⟩; have he := retB_eq hr (b := true) ⟨fun _ => HRD.out, fun _ => rfl⟩; subst he; have L8 := Lib.hid (L7.out.step hb); clear hb hr)
          | fail)
        go_roundw
        case rel => exact ⟨1, by omega, by go_num, L8⟩
        case measure => simp [intOf]
      · have hx1 : (x != 0) = true := by simpa using hx0
        clear hs
        go_wp2_with (first
          | (go_at_call 7; (with_reducible refine (step_N on 1 _ HAA hm hn on2 l2 j2 x HS HJ).mono ?_); rintro e w3 ⟨ra, rc, rfl, hat, hb⟩; have B4 := below_alloc w3 (.cells #[.bool on2, .slice ra j2 rc] 24); have L4 := Lib.hid ((LA.out.step hb).step B4); clear hb hat B4)
          | fail)
        go_roundw
        case rel => exact ⟨1, by omega, by go_num, L4⟩
        case measure => simp [intOf]
    · have LA := Lib.hid (HL.out.step (below_alloc wr (.cells #[.int .i64 3, .int .i64 4] 37)))
      have GA := LA.out.cells
      have KA := Lib.hid (heap_alloc_new wr (.cells #[.int .i64 3, .int .i64 4] 37))
      have HAA := Lib.hid (HAr.out.step (below_alloc wr (.cells #[.int .i64 3, .int .i64 4] 37)))
      obtain ⟨⟨⟨on2, l2⟩, x⟩, hs⟩ : ∃ r, stepNN ⟨on, l⟩ 3 = r := ⟨_, rfl⟩
      have HS := Lib.hid hs
      obtain ⟨j2, hj2⟩ : ∃ j2, l2.length = j2 := ⟨_, rfl⟩
      have HJ := Lib.hid hj2
      clear hj2
      by_cases hx0 : x = 0
      · subst hx0
        obtain ⟨hrd, hon, hbk⟩ := back_of (Or.inr ⟨rfl, rfl, rfl⟩) hs
        simp only at hon
        subst hon
        have HRD := Lib.hid hrd
        have HBK := Lib.hid hbk
        have h400 : j2 ≤ 400 := by have := hrd.len; simp only [HJ.out] at this; exact this
        clear hs hrd hbk
        go_wp2_with (first
          | (go_at_call 7; (with_reducible refine (step_N on 3 _ HAA hm hn false l2 j2 0 HS HJ).mono ?_); rintro e w3 ⟨ra, rc, rfl, hat, hb⟩; have B4 := below_alloc w3 (.cells #[.bool false, .slice ra j2 rc] 24); have L4 := Lib.hid ((LA.out.step hb).step B4); have G4 := L4.out.cells; have K4 := pair_at (heap_step (heap_step KA.out hb) B4); have HA4 := Lib.hid ((HAA.out.step hb).step B4); have HD4 := Lib.hid (hat.step B4); have D4 := Lib.hid (heap_alloc_new w3 (.cells #[.bool false, .slice ra j2 rc] 24)); have P4 := pair_at D4.out; clear hb hat B4)
          | (go_at_call 7; (with_reducible refine (step_N false 4 _ HD4 HJ (by omega) on l n 0 HBK hm).mono ?_); rintro e w5 ⟨ra5, rc5, rfl, hat, hb⟩; have B6 := below_alloc w5 (.cells #[.bool on, .slice ra5 n rc5] 24); have L6 := Lib.hid ((L4.out.step hb).step B6); have G6 := L6.out.cells; have HA6 := Lib.hid ((HA4.out.step hb).step B6); have HD6 := Lib.hid ((HD4.out.step hb).step B6); have D6 := Lib.hid (heap_step (heap_step D4.out hb) B6); have P6 := pair_at D6.out; have HB6 := Lib.hid (hat.step B6); clear hb hat B6)
          | (go_at_call 13; (with_reducible refine (same_N on _ hm HB6 HA6 hn).mono ?_); rintro e w7 ⟨rfl, hb⟩; have L7 := Lib.hid (L6.out.step hb); have HD7 := Lib.hid (HD6.out.step hb); have P7 := pair_at (heap_step D6.out hb); clear hb)
          | (go_at_call 11; (with_reducible refine (right_N false _ HD7 HJ (by omega)).mono ?_); rintro e w8 ⟨hr, hb⟩; have he := retB_eq hr (b := true) ⟨fun _ => HRD.out, fun _ => rfl⟩; subst he; have L8 := Lib.hid (L7.out.step hb); clear hb hr)
          | fail)
        go_roundw
        case rel => exact ⟨2, by omega, by go_num, L8⟩
        case measure => simp [intOf]
      · have hx1 : (x != 0) = true := by simpa using hx0
        clear hs
        go_wp2_with (first
          | (go_at_call 7; (with_reducible refine (step_N on 3 _ HAA hm hn on2 l2 j2 x HS HJ).mono ?_); rintro e w3 ⟨ra, rc, rfl, hat, hb⟩; have B4 := below_alloc w3 (.cells #[.bool on2, .slice ra j2 rc] 24); have L4 := Lib.hid ((LA.out.step hb).step B4); clear hb hat B4)
          | fail)
        go_roundw
        case rel => exact ⟨2, by omega, by go_num, L4⟩
        case measure => simp [intOf]
    · go_wp2_with fail
      go_ret
      exact ⟨rfl, HL.out.b⟩
theorem nestBack_walk (v : Value) (w : World) (g : ArgCore w v) : Calls Try.prog 4 #[v] w fun e w' => e = .returned (.bool true) ∧ Below w.heap.size w w' := by
  obtain ⟨on, ad, cap, l, rfl, hat, hn, _⟩ := g
  exact back_N on w (Lib.hid hat) (Lib.hid rfl) hn
end Go.Proofs.Yteeejkcehajokaa
