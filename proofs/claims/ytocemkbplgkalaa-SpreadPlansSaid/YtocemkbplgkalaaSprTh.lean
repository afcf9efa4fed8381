/- The largest first: the walk of SpreadThird. -/
import Derived.Test.YtocemkbplgkalaaSprGr
namespace Go.Proofs.Ytocemkbplgkalaa
open Go.RowKit

def boxP (B n : Nat) (mo : Nat) : Obj := .cells #[.slice (some ⟨B, 0, none⟩) n n, .int .i64 (mo : Int)] 24
theorem box_most (w : World) (B n mo : Nat) : (w.alloc (boxP B n mo)).cell? ⟨w.heap.size, 1, none⟩ = some (.int .i64 (mo : Int)) := by
  unfold boxP
  rw [cell_of_row _ _ 1 _ _ _ (heap_alloc_new w _)]; rfl
theorem box_core (w : World) (B n mo : Nat) : (w.alloc (boxP B n mo)).cell? ⟨w.heap.size, 0, none⟩ = some (.slice (some ⟨B, 0, none⟩) n n) := by
  unfold boxP
  rw [cell_of_row _ _ 0 _ _ _ (heap_alloc_new w _)]; rfl
theorem srt_dec {ws O : Nat → Nat} {n : Nat} (h : Srt ws O 0 n) : ∀ i j, i ≤ j → j < n → ws (O j) ≤ ws (O i) := fun i j hij hj => by
  by_cases e : i = j
  · rw [e]; exact Nat.le_refl _
  · have := h i j (Nat.zero_le _) (by omega) hj
    unfold Lt at this
    omega
theorem third_best {ws O : Nat → Nat} {m n v : Nat} (hm : 0 < m) (hp : Perm O n) (hs : Srt ws O 0 n) (h : IsBest ws m n v) : 3 * m * mostP ws m O n ≤ v * (4 * m - 1) := by
  obtain ⟨A, hA⟩ := h.1
  have := third hm hp (srt_dec hs) hA
  rw [Nat.mul_assoc, Nat.mul_comm v]
  exact this
set_option maxHeartbeats 2000000 in
set_option maxRecDepth 100000 in
theorem third_bad {ad : Option Addr} {cap n : Nat} {f : Nat → Int} (C : Int) (w : World) (HA : Hid (IntAt w ad cap n f)) (hn : n ≤ 9223372036854775807) (hq : Hid (wrongV f n C = 2)) :
    Calls Try.prog 6 #[.slice ad n cap, .int .i64 C] w (Yes w) := by
  go_enter Try.func6, Try.ntmps6
  go_wp2_with (first
    | (go_at_call 19; (with_reducible refine (alive5_R _).mono ?_); rintro e w1 ⟨rfl, hb1⟩; have B1 := Lib.hid hb1; have HA1 := Lib.hid (HA.out.step hb1); clear hb1)
    | (go_at_call 11; (with_reducible refine (long_bad C _ HA1 hn hq).mono ?_); rintro e w2 ⟨rfl, hb2⟩; have B2 := Lib.hid (grow (grow B1.out hb2) (below_al w2 (.cells #[.slice none 0 0, .int .i64 0] 24))); have HA2 := Lib.hid ((HA1.out.step hb2).step (below_al w2 (.cells #[.slice none 0 0, .int .i64 0] 24))); clear hb2)
    | (go_at_call 17; (with_reducible refine (best_bad C _ HA2 hn hq).mono ?_); rintro e w3 ⟨rfl, rfl⟩)
    | fail)
  go_ret
  exact ⟨rfl, B2.out⟩
set_option maxHeartbeats 2000000 in
set_option maxRecDepth 100000 in
theorem third_ok {ad : Option Addr} {cap n m : Nat} {ws : Nat → Nat} (w : World) (HA : Hid (IntAt w ad cap n (fun i => (ws i : Int)))) (hn : n ≤ 400) (hm : 0 < m) (hm8 : m ≤ 8) (hw : Hid (∀ i, i < n → ws i ≤ 1073741824)) (hq : Hid (wrongV (fun i => (ws i : Int)) n m = 0)) :
    Calls Try.prog 6 #[.slice ad n cap, .int .i64 (m : Int)] w (Yes w) := by
  go_enter Try.func6, Try.ntmps6
  go_wp2_with (first
    | (go_at_call 19; (with_reducible refine (alive5_R _).mono ?_); rintro e w1 ⟨rfl, hb1⟩; have B1 := Lib.hid hb1; have HA1 := Lib.hid (HA.out.step hb1); clear hb1)
    | fail)
  go_at_call 11
  (with_reducible refine (long_ok _ HA1 hn hm hm8 hw hq).mono ?_)
  rintro e w2 ⟨O, hp, hs, B, he, hr, hB, hb2⟩
  have hmb := most_bound (m := m) hn hw.out hp.1
  have HTB := Lib.hid fun v => third_best (v := v) hm hp hs
  obtain ⟨mo, hmo⟩ : ∃ q, mostP ws m O n = q := ⟨_, rfl⟩
  rw [hmo] at he hmb
  simp only [hmo] at HTB
  subst he
  have B2 := Lib.hid (grow (grow B1.out hb2) (below_al w2 (boxP B n mo)))
  have HA2 := Lib.hid ((HA1.out.step hb2).step (below_al w2 (boxP B n mo)))
  have ca1 : (w2.alloc (boxP B n mo)).cell? ⟨w2.heap.size, 1, none⟩ = some (.int .i64 (mo : Int)) := box_most w2 B n mo
  clear hb2 hr hB hp hs hmo HA1 B1
  go_wp2_with fail
  change Calls _ _ _ (w2.alloc (boxP B n mo)) _
  generalize w2.alloc (boxP B n mo) = w5 at ca1 HA2 B2 ⊢
  have hlt5 := block_lt_of_cell ca1
  simp only at hlt5
  by_cases h9 : n ≤ 9
  · have m9 : m ≤ 9 := by omega
    (with_reducible refine (best_ok _ HA2 h9 hm m9 hw hq).mono ?_)
    rintro e w6 ⟨v, hv, hv2, rfl, hb6⟩
    have B6 := Lib.hid (grow B2.out hb6)
    have ca6 : w6.cell? ⟨w2.heap.size, 1, none⟩ = some (.int .i64 (mo : Int)) := (hb6.cell (p := ⟨w2.heap.size, 1, none⟩) hlt5).trans ca1
    have hgv := HTB.out v hv
    obtain ⟨t, ht⟩ : ∃ t, 3 * m = t := ⟨_, rfl⟩
    obtain ⟨T, hT⟩ : ∃ T, t * mo = T := ⟨_, rfl⟩
    obtain ⟨z, hz⟩ : ∃ z, 4 * m - 1 = z := ⟨_, rfl⟩
    obtain ⟨V, hV⟩ : ∃ V, v * z = V := ⟨_, rfl⟩
    rw [ht, hT, hz, hV] at hgv
    have hVb : V ≤ 9663676416 * 32 := by rw [← hV]; exact Nat.mul_le_mul hv2 (by omega)
    have p0 : 3 * (m : Int) = (t : Int) := by omega
    have p1 : (t : Int) * (mo : Int) = (T : Int) := by rw [← Int.natCast_mul, hT]
    have p2 : 4 * (m : Int) - 1 = (z : Int) := by omega
    have p3 : (v : Int) * (z : Int) = (V : Int) := by rw [← Int.natCast_mul, hV]
    have t2 : decide ((T : Int) ≤ (V : Int)) = true := decide_eq_true (by omega)
    clear hb6 hv hz hV ht hT ca1
    go_wp2_with fail
    go_ret
    exact ⟨rfl, B6.out⟩
  · have n9 : n ≤ 9223372036854775807 := by omega
    have h9' : 9 < n := by omega
    (with_reducible refine (best_full (m : Int) _ HA2 n9 h9' hq).mono ?_)
    rintro e w6 ⟨rfl, rfl⟩
    go_wp2_with fail
    go_ret
    exact ⟨rfl, B2.out⟩
theorem spreadThird_walk (v : Value) (C : Int) (w : World) (g : ArgI w v) : Calls Try.prog 6 #[v, .int .i64 C] w (Yes w) := by
  obtain ⟨ad, n, cap, f, rfl, hn, HA⟩ := g
  by_cases hq : wrongV f n C = 0
  · obtain ⟨m, ws, rfl, ⟨h1, h2, h3⟩, h4, h5⟩ := wrong_pass hq
    exact third_ok w (Lib.hid (HA.congr fun i hi => (h5 i hi).symm)) h3 h1 h2 (Lib.hid h4) (Lib.hid (wrong_zero h3 h1 h2 h4))
  · exact third_bad C w (Lib.hid HA) hn (Lib.hid (wrong_two hq))
end Go.Proofs.Ytocemkbplgkalaa
