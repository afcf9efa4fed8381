/- The walk of TicketAll. -/
import Derived.Test.YtfepgebnaglkaaaTOne
namespace Go.Proofs.Ytfepgebnaglkaaa
open Go.RowKit

theorem stepT_try {l l' : LockT} {k x : Int} {c : Nat} {t : Bool} (hr : Rt l) (h : stepT l k c = (l', t, x)) : (x = 0 → tryT l k c = l') ∧ (¬ x = 0 → tryT l k c = l) := by
  unfold stepT at h
  rw [okT_true.2 hr] at h
  unfold tryT
  by_cases he : errT true l k c = 0
  · rw [if_pos he, Int.toNat_natCast] at h
    simp only [Prod.mk.injEq] at h
    obtain ⟨rfl, _, rfl⟩ := h
    exact ⟨fun _ => if_pos he, fun q => absurd rfl q⟩
  · rw [if_neg he] at h
    simp only [Prod.mk.injEq] at h
    obtain ⟨_, _, rfl⟩ := h
    exact ⟨fun q => absurd q he, fun _ => if_neg he⟩
/-- Behind none, one, both of the two operations of a visit. -/
def vis (s : LockT) (c : Nat) (j : Nat) : LockT := if j = 0 then s else if j = 1 then tryT s 2 c else visit s c
def kk (j : Nat) : Int := if j = 0 then 2 else 3
theorem vis_next (s : LockT) (c j : Nat) (h : j < 2) : vis s c (j + 1) = tryT (vis s c j) (kk j) c := by
  have : j = 0 ∨ j = 1 := by omega
  rcases this with rfl | rfl <;> rfl
theorem vis_rt {s : LockT} (h : Rt s) (c j : Nat) : Rt (vis s c j) := by
  unfold vis
  split
  · exact h
  · split
    · exact try_rt h
    · exact visit_rt h c
/-- The lock in a box of the call's own. -/
structure AllW (w wx : World) (B : Nat) (R : Array Value) : Prop where
  b : Below w.heap.size w wx
  le : w.heap.size ≤ B
  r : wx.heap[B]? = some (.cells R 25 (0, 0))
theorem AllW.step {w wx wy : World} {B : Nat} {R : Array Value} (h : AllW w wx B R) (hb : Below wx.heap.size wx wy) : AllW w wy B R := ⟨pstep h.b hb, h.le, heap_step h.r hb⟩
theorem AllW.set {w wx wy : World} {B : Nat} {R R' : Array Value} (h : AllW w wx B R) (hs : SetR wx wy B (.cells R' 25 (0, 0))) : AllW w wy B R' := ⟨h.b.trans (hs.below _ h.le), h.le, hs.put⟩
theorem AllW.lt {w wx : World} {B : Nat} {R : Array Value} (h : AllW w wx B R) : B < wx.heap.size := (Array.getElem?_eq_some_iff.1 h.r).1
set_option maxHeartbeats 2000000 in
set_option maxRecDepth 100000 in
theorem all_core {ad : Option Addr} {cap n : Nat} {ops : List LopT} (Z : Array Value) (hz : ∀ w, (zeroValue 25).run Try.prog w = .ok (.agg Z) w) (HZ : Hid (Z.size = 18)) (w : World) (HA : Hid (shL.At w ad cap ops)) (hm : Hid (ops.length = n)) (hn : n ≤ 8796093022208) (r : RunT) (Hr : Hid (runT ops = r)) (HRT : Hid (Rt r.l)) :
    Calls Try.prog 7 #[.slice ad n cap] w fun e w' => e = .returned (.bool true) ∧ Below w.heap.size w w' := by
  obtain ⟨R, hR⟩ : ∃ R, lockRow r.l = R := ⟨_, rfl⟩
  have HR := Lib.hid hR
  have HS : Hid (R.size = 18) := Lib.hid (by rw [← hR]; rfl)
  have HAR : Hid (R.all (·.oneCell') = true) := Lib.hid (by rw [← hR]; exact row_all _)
  clear hR
  go_enter Try.func7, Try.ntmps7
  go_wp2_with (first
    | (go_at_call 17; (with_reducible refine (alive6_R _).mono ?_); rintro e w1 ⟨rfl, hb⟩; have B1 := Lib.hid hb; clear hb)
    | (go_at_call 13; (with_reducible refine (play_R _ (Lib.hid (HA.out.step B1.out)) hm hn r Hr R HR).mono ?_); rintro e w2 ⟨ra, rc, rfl, RA, hb⟩; have B2 := Lib.hid (pstep B1.out hb); clear hb RA)
    | (refine wpList_store_row rfl 25 _ _ rfl w2.heap.size R rfl rfl 25 Z (heap_alloc_new w2 _) (by rw [size_lock, HS.out]) (by rw [HS.out, HZ.out]) HAR.out ?_; intro w3 hw3; have A3 : Hid (AllW w w3 w2.heap.size R) := (Lib.hid ⟨(pstep B2.out (below_alloc w2 _)).trans (hw3.below _ B2.out.size), B2.out.size, hw3.put⟩); clear hw3)
    | fail)
  generalize w2.heap.size = B at A3 ⊢
  go_loopw [18] (fun i wr => ∃ (k : Nat) (R : Array Value), k ≤ 8 ∧ i = .int .i64 k ∧ Hid (lockRow (rounds r.l k) = R) ∧ Hid (AllW w wr B R)) (fun i _ => 8 - (intOf i).toNat)
  case atStart => exact ⟨0, R, by omega, rfl, HR, A3⟩
  case round =>
    clear A3 HR HS HAR
    obtain ⟨k, R1, hk, rfl, HR1, A4⟩ := hrel
    by_cases hk8 : k < 8
    · have hkd : decide ((k : Int) < 8) = true := decide_eq_true (by omega)
      go_wp2_with fail
      go_loopw [20] (fun i wr => ∃ (c : Nat) (R : Array Value), c ≤ 8 ∧ i = .int .i64 c ∧ Hid (lockRow (sweep (rounds r.l k) c) = R) ∧ Hid (AllW w wr B R)) (fun i _ => 8 - (intOf i).toNat)
      case atStart => exact ⟨0, R1, by omega, rfl, HR1, A4⟩
      case round =>
        clear A4 HR1
        obtain ⟨c, R2, hc, rfl, HR2, A5⟩ := hrel
        obtain ⟨s, hs⟩ : ∃ s, sweep (rounds r.l k) c = s := ⟨_, rfl⟩
        have hsr : Rt s := by rw [← hs]; exact sweep_rt (rounds_rt HRT.out k) c
        rw [hs] at HR2
        have HSR := Lib.hid hsr
        have HSS := Lib.hid hs
        clear hsr hs
        by_cases hc8 : c < 8
        · obtain ⟨wo, rfl⟩ : ∃ wo : World, wo = wr := ⟨_, rfl⟩
          have A6 := Lib.hid (A5.out.step (below_alloc wo (.cells #[.int .i64 2, .int .i64 3] 3)))
          have G6 := Lib.hid (heap_alloc_new wo (.cells #[.int .i64 2, .int .i64 3] 3))
          have HBG := Lib.hid A5.out.lt
          have hcd : decide ((c : Int) < 8) = true := decide_eq_true (by omega)
          go_wp2_with fail
          generalize wo.heap.size = g at G6 HBG ⊢
          go_loopw [25] (fun i wr => ∃ (j : Nat) (R : Array Value), j ≤ 2 ∧ i = .int .i64 j ∧ Hid (lockRow (vis s c j) = R) ∧ Hid (AllW w wr B R) ∧ Hid (wr.heap[g]? = some (.cells #[.int .i64 2, .int .i64 3] 3 (0, 0)))) (fun i _ => 2 - (intOf i).toNat)
          case atStart => exact ⟨0, R2, by omega, rfl, HR2, A6, G6⟩
          case round =>
            clear A5 A6 G6 HR2
            obtain ⟨j, R3, hj, rfl, HR3, A7, G7⟩ := hrel
            obtain ⟨u, hu⟩ : ∃ u, vis s c j = u := ⟨_, rfl⟩
            have hur : Rt u := by rw [← hu]; exact vis_rt HSR.out c j
            rw [hu] at HR3
            have HS3 : Hid (R3.size = 18) := Lib.hid (by rw [← HR3.out]; rfl)
            by_cases hj2 : j < 2
            · have hnx := vis_next s c j hj2
              rw [hu] at hnx
              obtain ⟨K, hK⟩ : ∃ K, kk j = K := ⟨_, rfl⟩
              rw [hK] at hnx
              have hcell : wr.cell? ⟨g, j, none⟩ = some (.int .i64 K) := by
                rw [cell_of_row _ _ _ _ _ _ G7.out, ← hK]
                have : j = 0 ∨ j = 1 := by omega
                rcases this with rfl | rfl <;> rfl
              obtain ⟨⟨u', t, x⟩, hst⟩ : ∃ q, stepT u K c = q := ⟨_, rfl⟩
              have htry := stepT_try hur hst
              obtain ⟨R4, hR4⟩ : ∃ R4, lockRow u' = R4 := ⟨_, rfl⟩
              have HR4 := Lib.hid hR4
              have HS4 : Hid (R4.size = 18) := Lib.hid (by rw [← hR4]; rfl)
              have HA4 : Hid (R4.all (·.oneCell') = true) := Lib.hid (by rw [← hR4]; exact row_all _)
              have HST := Lib.hid hst
              have HNX := Lib.hid hnx
              clear hu hur hnx hK hst hR4
              by_cases hx : x = 0
              · subst hx
                have HTRY : Hid (tryT u K c = u') := Lib.hid (htry.1 rfl)
                clear htry
                go_wp2_with (first
                  | (refine wpList_load_row rfl 25 _ rfl B rfl 25 R3 (0, 0) _ A7.out.r Try.underlying25 rfl (by rw [size_lock, HS3.out]) ?_)
                  | (go_at_call 9; (with_reducible refine (step_R u K c R3 R4 t 0 u' HR3 HR4 HST _).mono ?_); rintro e w4 ⟨rfl, hb⟩; have A8 := Lib.hid (A7.out.step hb); have G8 := Lib.hid (heap_step G7.out hb); clear hb)
                  | (refine wpList_store_row rfl 25 _ _ rfl w4.heap.size R4 rfl rfl 25 Z (heap_alloc_new w4 _) (by rw [size_lock, HS4.out]) (by rw [HS4.out, HZ.out]) HA4.out ?_; intro w5 hw5; have C5 := Lib.hid ((below_alloc w4 (.cells Z 25)).trans (hw5.below _ (Nat.le_refl _))); have A9 := Lib.hid (A8.out.step C5.out); have G9 := Lib.hid (heap_step G8.out C5.out); have P9 := Lib.hid hw5.put; clear hw5)
                  | (refine wpList_load_row rfl 25 _ rfl w4.heap.size rfl 25 R4 (0, 0) _ P9.out Try.underlying25 rfl (by rw [size_lock, HS4.out]) ?_)
                  | (refine wpList_store_row rfl 25 _ _ rfl B R4 rfl rfl 25 R3 A9.out.r (by rw [size_lock, HS4.out]) (by rw [HS4.out, HS3.out]) HA4.out ?_; intro w6 hw6; have A10 := Lib.hid (A9.out.set hw6); have G10 := Lib.hid ((hw6.other _ (by have := HBG.out; omega)).trans G9.out); clear hw6)
                  | fail)
                go_roundw
                case rel => exact ⟨j + 1, R4, by omega, by go_num, Lib.hid (by rw [HNX.out, HTRY.out]; exact HR4.out), A10, G10⟩
                case measure => simp [intOf]; omega
              · have hx1 : (x == 0) = false := by simpa using hx
                have HTRY : Hid (tryT u K c = u) := Lib.hid (htry.2 hx)
                clear htry
                go_wp2_with (first
                  | (refine wpList_load_row rfl 25 _ rfl B rfl 25 R3 (0, 0) _ A7.out.r Try.underlying25 rfl (by rw [size_lock, HS3.out]) ?_)
                  | (go_at_call 9; (with_reducible refine (step_R u K c R3 R4 t x u' HR3 HR4 HST _).mono ?_); rintro e w4 ⟨rfl, hb⟩; have A8 := Lib.hid (A7.out.step hb); have G8 := Lib.hid (heap_step G7.out hb); clear hb)
                  | (refine wpList_store_row rfl 25 _ _ rfl w4.heap.size R4 rfl rfl 25 Z (heap_alloc_new w4 _) (by rw [size_lock, HS4.out]) (by rw [HS4.out, HZ.out]) HA4.out ?_; intro w5 hw5; have C5 := Lib.hid ((below_alloc w4 (.cells Z 25)).trans (hw5.below _ (Nat.le_refl _))); have A9 := Lib.hid (A8.out.step C5.out); have G9 := Lib.hid (heap_step G8.out C5.out); clear hw5)
                  | fail)
                go_roundw
                case rel => exact ⟨j + 1, R3, by omega, by go_num, Lib.hid (by rw [HNX.out, HTRY.out]; exact HR3.out), A9, G9⟩
                case measure => simp [intOf]; omega
            · obtain rfl : j = 2 := by omega
              go_wp2_with fail
              go_roundw
              case rel => exact ⟨c + 1, R3, by omega, by go_num, Lib.hid (by rw [sweep, HSS.out]; rw [← HR3.out, ← hu]; rfl), A7⟩
              case measure => simp [intOf]; omega
        · obtain rfl : c = 8 := by omega
          go_wp2_with fail
          go_roundw
          case rel => exact ⟨k + 1, R2, by omega, by go_num, Lib.hid (by rw [rounds, HSS.out]; exact HR2.out), A5⟩
          case measure => simp [intOf]; omega
    · obtain rfl : k = 8 := by omega
      have hall := rounds_all HRT.out
      obtain ⟨s, hs⟩ : ∃ s, rounds r.l 8 = s := ⟨_, rfl⟩
      rw [hs] at hall HR1
      obtain ⟨nx, hnx⟩ : ∃ nx, s.next = nx := ⟨_, rfl⟩
      have c0 := box_cells A4.out.r 0 (.int .i64 nx) (by rw [← HR1.out, ← hnx]; rfl)
      have c1 := box_cells A4.out.r 1 (.int .i64 nx) (by rw [← HR1.out, ← hnx, ← hall.1]; rfl)
      have q : ∀ i, i < 8 → R1[10 + i]? = some (.bool false) := fun i hi => by rw [← HR1.out, lockRow_inn _ hi, hall.2 i hi]
      have d0 := box_cells A4.out.r 10 _ (q 0 (by decide))
      have d1 := box_cells A4.out.r 11 _ (q 1 (by decide))
      have d2 := box_cells A4.out.r 12 _ (q 2 (by decide))
      have d3 := box_cells A4.out.r 13 _ (q 3 (by decide))
      have d4 := box_cells A4.out.r 14 _ (q 4 (by decide))
      have d5 := box_cells A4.out.r 15 _ (q 5 (by decide))
      have d6 := box_cells A4.out.r 16 _ (q 6 (by decide))
      have d7 := box_cells A4.out.r 17 _ (q 7 (by decide))
      have hEq := fun w => eq_bools8 (fun _ => false) w
      clear q hall hs hnx
      go_wp2_with fail
      go_ret
      exact ⟨rfl, A4.out.b⟩
theorem ticketAll_walk (v0 : Value) (w : World) (g0 : ArgLops w v0) (u0 : lenOf v0 ≤ 8796093022208) :
    Calls Try.prog 7 #[v0] w fun e w' => e = .returned (.bool true) ∧ Below w.heap.size w w' := by
  obtain ⟨ad, cap, l, rfl, HA⟩ := g0
  exact all_core _ (zero_of_info info_lock).1 (Lib.hid rfl) w (Lib.hid HA) (Lib.hid rfl) u0 _ (Lib.hid rfl) (Lib.hid (fair_run l).rt)
end Go.Proofs.Ytfepgebnaglkaaa
