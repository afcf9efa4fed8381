/- The walk of TicketPlays. -/
import Derived.Test.YtfepgebnaglkaaaTicFp
namespace Go.Proofs.Ytfepgebnaglkaaa
open Go.RowKit

theorem fplay_E {ad : Option Addr} {cap n : Nat} {ops : List LopT} (w : World) (HA : Hid (shL.At w ad cap ops)) (hm : Hid (ops.length = n)) (hn : n ≤ 8796093022208) (r : RunT) (Hr : Hid (runT ops = r)) (es : List Int) (m : Nat) (He : Hid (r.es = es)) (Hm : Hid (es.length = m)) (R9 : Array Value) (HR9 : Hid (lockRow r.l = R9)) :
    Calls Try.prog 14 #[.slice ad n cap] w fun e w' => ∃ ra rc, e = .returned (.tuple #[.slice ra m rc, .agg R9]) ∧ shI.At w' ra rc es ∧ Below w.heap.size w w' := by
  rw [← Hm.out, ← He.out]
  exact fplay_R w HA hm hn r Hr R9 HR9
theorem fplay_nil (w : World) (R0 : Array Value) (HR0 : Hid (lockRow l0 = R0)) :
    Calls Try.prog 14 #[.slice none 0 0] w fun e w' => ∃ ra rc, e = .returned (.tuple #[.slice ra 0 rc, .agg R0]) ∧ Below w.heap.size w w' :=
  (fplay_E (ops := []) (n := 0) w (Lib.hid (Shape.At.nil _)) (Lib.hid rfl) (by decide) r0 (Lib.hid rfl) [] 0 (Lib.hid rfl) (Lib.hid rfl) R0 HR0).mono fun _ _ ⟨ra, rc, h1, _, h2⟩ => ⟨ra, rc, h1, h2⟩
/-- What is held while the answers are compared. -/
structure Pl3 (w wx : World) (b4 b6 b8 : Nat) (R R0 : Array Value) (es : List Int) (ra : Option Addr) (rc : Nat) (sa : Option Addr) (sc : Nat) : Prop where
  b : Below w.heap.size w wx
  p4 : wx.heap[b4]? = some (.cells R 25 (0, 0))
  p6 : wx.heap[b6]? = some (.cells R 25 (0, 0))
  p8 : wx.heap[b8]? = some (.cells R0 25 (0, 0))
  e : shI.At wx ra rc es
  f : shI.At wx sa sc es
theorem Pl3.step {w wx wy : World} {b4 b6 b8 : Nat} {R R0 : Array Value} {es : List Int} {ra : Option Addr} {rc : Nat} {sa : Option Addr} {sc : Nat} (h : Pl3 w wx b4 b6 b8 R R0 es ra rc sa sc) (hb : Below wx.heap.size wx wy) : Pl3 w wy b4 b6 b8 R R0 es ra rc sa sc :=
  ⟨pstep h.b hb, heap_step h.p4 hb, heap_step h.p6 hb, heap_step h.p8 hb, h.e.step hb, h.f.step hb⟩
set_option maxHeartbeats 1000000 in
set_option maxRecDepth 100000 in
theorem plays_core {ad : Option Addr} {cap n : Nat} {ops : List LopT} (Z : Array Value) (hz : ∀ w, (zeroValue 25).run Try.prog w = .ok (.agg Z) w) (HZ : Hid (Z.size = 18)) (w : World) (HA : Hid (shL.At w ad cap ops)) (hm : Hid (ops.length = n)) (hn : n ≤ 8796093022208) (r : RunT) (Hr : Hid (runT ops = r)) (n1 : Nat) (Hn1 : Hid (r.es.length = n1)) (hn1 : n1 ≤ 9223372036854775807) :
    Calls Try.prog 4 #[.slice ad n cap] w fun e w' => e = .returned (.bool true) ∧ Below w.heap.size w w' := by
  obtain ⟨R, hR⟩ : ∃ R, lockRow r.l = R := ⟨_, rfl⟩
  obtain ⟨R0, hR0⟩ : ∃ R0, lockRow l0 = R0 := ⟨_, rfl⟩
  have HR := Lib.hid hR
  have HR0 := Lib.hid hR0
  have HS : Hid (R.size = 18) := Lib.hid (by rw [← hR]; rfl)
  have HAR : Hid (R.all (·.oneCell') = true) := Lib.hid (by rw [← hR]; exact row_all _)
  have HS0 : Hid (R0.size = 18) := Lib.hid (by rw [← hR0]; rfl)
  have HAR0 : Hid (R0.all (·.oneCell') = true) := Lib.hid (by rw [← hR0]; exact row_all _)
  have hEq := fun w => eq_lock r.l R HR w
  have hEq0 := fun w => eq_lock l0 R0 HR0 w
  clear hR hR0
  go_enter Try.func4, Try.ntmps4
  go_wp2_with (first
    | (go_at_call 13; (with_reducible refine (play_E _ HA hm hn r Hr r.es n1 (Lib.hid rfl) Hn1 R HR).mono ?_); rintro e w1 ⟨ra, rc, rfl, RA, hb⟩; have B1 := Lib.hid hb; have E1 := Lib.hid RA; clear hb RA)
    | (refine wpList_store_row rfl 25 _ _ rfl w1.heap.size R rfl rfl 25 Z (heap_alloc_new w1 _) (by rw [size_lock, HS.out]) (by rw [HS.out, HZ.out]) HAR.out ?_; intro w2 hw2; have C2 := Lib.hid ((below_alloc w1 (.cells Z 25)).trans (hw2.below _ (Nat.le_refl _))); have B2 := Lib.hid (pstep B1.out C2.out); have E2 := Lib.hid (E1.out.step C2.out); have P2 := Lib.hid hw2.put; clear hw2)
    | (go_at_call 14; (with_reducible refine (fplay_E _ (Lib.hid (HA.out.step B2.out)) hm hn r Hr r.es n1 (Lib.hid rfl) Hn1 R HR).mono ?_); rintro e w3 ⟨sa, sc, rfl, SA, hb⟩; have B3 := Lib.hid (pstep B2.out hb); have E3 := Lib.hid (E2.out.step hb); have P3 := Lib.hid (heap_step P2.out hb); have F3 := Lib.hid SA; clear hb SA)
    | (refine wpList_store_row rfl 25 _ _ rfl w3.heap.size R rfl rfl 25 Z (heap_alloc_new w3 _) (by rw [size_lock, HS.out]) (by rw [HS.out, HZ.out]) HAR.out ?_; intro w4 hw4; have C4 := Lib.hid ((below_alloc w3 (.cells Z 25)).trans (hw4.below _ (Nat.le_refl _))); have B4 := Lib.hid (pstep B3.out C4.out); have E4 := Lib.hid (E3.out.step C4.out); have P4 := Lib.hid (heap_step P3.out C4.out); have F4 := Lib.hid (F3.out.step C4.out); have N4 := Lib.hid hw4.put; clear hw4)
    | (go_at_call 14; (with_reducible refine (fplay_nil _ R0 HR0).mono ?_); rintro e w5 ⟨na, nc, rfl, hb⟩; have B5 := Lib.hid (pstep B4.out hb); have E5 := Lib.hid (E4.out.step hb); have P5 := Lib.hid (heap_step P4.out hb); have F5 := Lib.hid (F4.out.step hb); have N5 := Lib.hid (heap_step N4.out hb); clear hb)
    | (refine wpList_store_row rfl 25 _ _ rfl w5.heap.size R0 rfl rfl 25 Z (heap_alloc_new w5 _) (by rw [size_lock, HS0.out]) (by rw [HS0.out, HZ.out]) HAR0.out ?_; intro w6 hw6; have C6 := Lib.hid ((below_alloc w5 (.cells Z 25)).trans (hw6.below _ (Nat.le_refl _))); have Q6 : Pl3 w w6 w1.heap.size w3.heap.size w5.heap.size R R0 r.es ra rc sa sc := ⟨pstep B5.out C6.out, heap_step P5.out C6.out, heap_step N5.out C6.out, hw6.put, E5.out.step C6.out, F5.out.step C6.out⟩; clear hw6)
    | fail)
  refine wp_region_noPanic ?_
  refine wp_region_held_drew (S := fun w' => Pl3 w w' w1.heap.size w3.heap.size w5.heap.size R R0 r.es ra rc sa sc) (by kernel_rfl) (Q6.step (Below.refl _ _).drew) (fun hHeld => ?_)
  refine wpAnyH_take (i := 0) (v := ?_) rfl (by kernel_rfl) (by kernel_rfl) (by kernel_rfl) (fun _ _ _ h => h) (Or.inl ⟨by rfl, ?_⟩) (by assumption) ?_
  rotate_left
  · (intro w hSw; (try dsimp only at hSw); go_simp; try with_reducible rfl)
  simp only [List.getElem_toArray, List.getElem_cons_zero, Act.put, List.setIfInBounds_toArray, List.set_cons_zero, List.set_cons_succ]
  refine wpAnyH_take (i := 1) (v := ?_) rfl (by kernel_rfl) (by kernel_rfl) (by kernel_rfl) (fun _ _ _ h => h) (Or.inl ⟨by rfl, ?_⟩) (by assumption) ?_
  rotate_left
  · (intro w hSw; (try dsimp only at hSw); go_simp; try with_reducible rfl)
  simp only [List.getElem_toArray, List.getElem_cons_zero, List.getElem_cons_succ, Act.put, List.setIfInBounds_toArray, List.set_cons_zero, List.set_cons_succ]
  refine wpAnyH_ready (rs := [2]) (by kernel_rfl) (by simp) ?_
  refine AllReadyH.cons rfl (fun K hK => ?_) AllReadyH.nil
  go_simp
  with_reducible refine (equalI (n := n1) _ Hn1 (Lib.hid hHeld.e) (Lib.hid hHeld.f) hn1).mono ?_
  rintro e w7 ⟨rfl, hb7⟩
  go_wp2_with fail
  refine hK.out _ _ (hHeld.step hb7) (fun hHeld => ?_)
  refine wpAnyH_take (i := 3) (v := ?_) rfl (by kernel_rfl) (by kernel_rfl) (by kernel_rfl) (fun _ _ _ h => h) (Or.inl ⟨by rfl, ?_⟩) (by assumption) ?_
  rotate_left
  · (intro w hSw; (try dsimp only at hSw); go_simp; try with_reducible rfl)
  simp only [List.getElem_toArray, List.getElem_cons_zero, List.getElem_cons_succ, Act.put, List.setIfInBounds_toArray, List.set_cons_zero, List.set_cons_succ]
  refine wpAnyH_take (i := 4) (v := .agg R) rfl (by kernel_rfl) (by kernel_rfl) (by kernel_rfl) (fun _ _ _ h => h) (yieldsIf_load_row rfl 25 _ rfl (w1.heap.size) rfl 25 R (0, 0) _ (fun _ h => h.p4) Try.underlying25 rfl (by rw [size_lock, HS.out])) (by assumption) ?_
  simp only [List.getElem_toArray, List.getElem_cons_zero, List.getElem_cons_succ, Act.put, List.setIfInBounds_toArray, List.set_cons_zero, List.set_cons_succ]
  refine wpAnyH_take (i := 5) (v := .agg R) rfl (by kernel_rfl) (by kernel_rfl) (by kernel_rfl) (fun _ _ _ h => h) (yieldsIf_load_row rfl 25 _ rfl (w3.heap.size) rfl 25 R (0, 0) _ (fun _ h => h.p6) Try.underlying25 rfl (by rw [size_lock, HS.out])) (by assumption) ?_
  simp only [List.getElem_toArray, List.getElem_cons_zero, List.getElem_cons_succ, Act.put, List.setIfInBounds_toArray, List.set_cons_zero, List.set_cons_succ]
  refine wpAnyH_take (i := 6) (v := ?_) rfl (by kernel_rfl) (by kernel_rfl) (by kernel_rfl) (fun _ _ _ h => h) (Or.inl ⟨by rfl, ?_⟩) (by assumption) ?_
  rotate_left
  · (intro w hSw; (try dsimp only at hSw); go_simp; try with_reducible rfl)
  simp only [List.getElem_toArray, List.getElem_cons_zero, List.getElem_cons_succ, Act.put, List.setIfInBounds_toArray, List.set_cons_zero, List.set_cons_succ]
  refine wpAnyH_take (i := 7) (v := ?_) rfl (by kernel_rfl) (by kernel_rfl) (by kernel_rfl) (fun _ _ _ h => h) (Or.inl ⟨by rfl, ?_⟩) (by assumption) ?_
  rotate_left
  · (intro w hSw; (try dsimp only at hSw); go_simp; try with_reducible rfl)
  simp only [List.getElem_toArray, List.getElem_cons_zero, List.getElem_cons_succ, Act.put, List.setIfInBounds_toArray, List.set_cons_zero, List.set_cons_succ]
  refine wpAnyH_take (i := 8) (v := ?_) rfl (by kernel_rfl) (by kernel_rfl) (by kernel_rfl) (fun _ _ _ h => h) (Or.inl ⟨by rfl, ?_⟩) (by assumption) ?_
  rotate_left
  · (intro w hSw; (try dsimp only at hSw); go_simp; try with_reducible rfl)
  simp only [List.getElem_toArray, List.getElem_cons_zero, List.getElem_cons_succ, Act.put, List.setIfInBounds_toArray, List.set_cons_zero, List.set_cons_succ]
  refine wpAnyH_take (i := 10) (v := .agg R0) rfl (by kernel_rfl) (by kernel_rfl) (by kernel_rfl) (fun _ _ _ h => h) (yieldsIf_load_row rfl 25 _ rfl (w5.heap.size) rfl 25 R0 (0, 0) _ (fun _ h => h.p8) Try.underlying25 rfl (by rw [size_lock, HS0.out])) (by assumption) ?_
  simp only [List.getElem_toArray, List.getElem_cons_zero, List.getElem_cons_succ, Act.put, List.setIfInBounds_toArray, List.set_cons_zero, List.set_cons_succ]
  refine wpAnyH_ready (rs := [9]) (by kernel_rfl) (by simp) ?_
  refine AllReadyH.cons rfl (fun K hK => ?_) AllReadyH.nil
  go_simp
  with_reducible refine (new_L _ R0 HR0).mono ?_
  rintro e w8 ⟨rfl, hb8⟩
  go_wp2_with fail
  refine hK.out _ _ (hHeld.step hb8) (fun hHeld => ?_)
  refine wpAnyH_take (i := 11) (v := ?_) rfl (by kernel_rfl) (by kernel_rfl) (by kernel_rfl) (fun _ _ _ h => h) (Or.inl ⟨by rfl, ?_⟩) (by assumption) ?_
  rotate_left
  · (intro w hSw; (try dsimp only at hSw); go_simp; try with_reducible rfl)
  simp only [List.getElem_toArray, List.getElem_cons_zero, List.getElem_cons_succ, Act.put, List.setIfInBounds_toArray, List.set_cons_zero, List.set_cons_succ]
  refine wpAnyH_take (i := 12) (v := ?_) rfl (by kernel_rfl) (by kernel_rfl) (by kernel_rfl) (fun _ _ _ h => h) (Or.inl ⟨by rfl, ?_⟩) (by assumption) ?_
  rotate_left
  · (intro w hSw; (try dsimp only at hSw); go_simp; try with_reducible rfl)
  simp only [List.getElem_toArray, List.getElem_cons_zero, List.getElem_cons_succ, Act.put, List.setIfInBounds_toArray, List.set_cons_zero, List.set_cons_succ]
  refine wpAnyH_take (i := 13) (v := ?_) rfl (by kernel_rfl) (by kernel_rfl) (by kernel_rfl) (fun _ _ _ h => h) (Or.inl ⟨by rfl, ?_⟩) (by assumption) ?_
  rotate_left
  · (intro w hSw; (try dsimp only at hSw); go_simp; try with_reducible rfl)
  simp only [List.getElem_toArray, List.getElem_cons_zero, List.getElem_cons_succ, Act.put, List.setIfInBounds_toArray, List.set_cons_zero, List.set_cons_succ]
  refine wpAnyH_done (by kernel_rfl) ?_ _
  refine NoPanic.normal ?_
  go_wp2_with fail
  go_ret
  exact ⟨rfl, hHeld.b⟩
theorem ticketPlays_walk (v0 : Value) (w : World) (g0 : ArgLops w v0) (u0 : lenOf v0 ≤ 8796093022208) :
    Calls Try.prog 4 #[v0] w fun e w' => e = .returned (.bool true) ∧ Below w.heap.size w w' := by
  obtain ⟨ad, cap, l, rfl, HA⟩ := g0
  have u1 : l.length ≤ 8796093022208 := u0
  exact plays_core _ (zero_of_info info_lock).1 (Lib.hid rfl) w (Lib.hid HA) (Lib.hid rfl) u0 _ (Lib.hid rfl) _ (Lib.hid rfl) (by have := es_len l; omega)
end Go.Proofs.Ytfepgebnaglkaaa
