/- Largest first and best do not ask for the order of the pieces: the walk of SpreadOrder. -/
import Derived.Test.YtmldedkmmhnihaaSprRv
import Derived.Test.YtmldedkmmhnihaaSprTh
namespace Go.Proofs.Ytmldedkmmhnihaa
open Go.RowKit

def boxB : Obj := .cells #[.slice none 0 0, .int .i64 0] 51
theorem boxB_most (w : World) : (w.alloc boxB).cell? ⟨w.heap.size, 1, none⟩ = some (.int .i64 0) := by
  unfold boxB
  rw [cell_of_row _ _ 1 _ _ _ (heap_alloc_new w _)]; rfl
set_option maxHeartbeats 2000000 in
set_option maxRecDepth 100000 in
theorem order_bad {ad : Option Addr} {cap n : Nat} {f : Nat → Int} (C : Int) (w : World) (HA : Hid (IntAt w ad cap n f)) (hn : n ≤ 17592186044415) (hq : Hid (wrongV f n C = 2)) :
    Calls Try.prog 6 #[.slice ad n cap, .int .i64 C] w (Yes w) := by
  have n9 : n ≤ 9223372036854775807 := by omega
  have hq2 := Lib.hid ((wrong_turn f n C).trans hq.out)
  go_enter Try.func6, Try.ntmps6
  go_wp2_with (first
    | (go_at_call 18; (with_reducible refine (alive5_R _).mono ?_); rintro e w1 ⟨rfl, hb1⟩; have B1 := Lib.hid hb1; have HA1 := Lib.hid (HA.out.step hb1); clear hb1)
    | (go_at_call 19; (with_reducible refine (clone_R _ HA1 hn).mono ?_); rintro e w2 ⟨ra, rc, rfl, ho, hb2⟩; have HB2 := Lib.hid hb2; have HO2 := Lib.hid ho; clear hb2 ho)
    | (go_at_call 20; (with_reducible refine (reverse_R _ HB2 HO2 hn).mono ?_); rintro e w3 ⟨rfl, ho, hb3⟩; have B3 := Lib.hid (grow B1.out hb3); have HA3 := Lib.hid (HA1.out.step hb3); have HR3 := Lib.hid ho.at; clear hb3 ho)
    | fail)
  go_at_call 21
  (with_reducible refine (long_bad C _ HA3 n9 hq).mono ?_)
  rintro e w4 ⟨rfl, hb4⟩
  have B4 := Lib.hid (grow (grow B3.out hb4) (below_al w4 boxB))
  have HA4 := Lib.hid ((HA3.out.step hb4).step (below_al w4 boxB))
  have HR4 := Lib.hid ((HR3.out.step hb4).step (below_al w4 boxB))
  have ca := boxB_most w4
  clear hb4
  go_wp2_with fail
  change Calls _ _ _ (w4.alloc boxB) _
  generalize w4.alloc boxB = w5 at ca HA4 HR4 B4 ⊢
  have lt5 := block_lt_of_cell ca
  simp only at lt5
  (with_reducible refine (long_bad C _ HR4 n9 hq2).mono ?_)
  rintro e w6 ⟨rfl, hb6⟩
  have B6 := Lib.hid (grow (grow B4.out hb6) (below_al w6 boxB))
  have HA6 := Lib.hid ((HA4.out.step hb6).step (below_al w6 boxB))
  have HR6 := Lib.hid ((HR4.out.step hb6).step (below_al w6 boxB))
  have cb := boxB_most w6
  have ca6 : (w6.alloc boxB).cell? ⟨w4.heap.size, 1, none⟩ = some (.int .i64 0) := ((grow hb6 (below_al w6 boxB)).cell (p := ⟨w4.heap.size, 1, none⟩) lt5).trans ca
  clear hb6 ca
  go_wp2_with fail
  change Calls _ _ _ (w6.alloc boxB) _
  generalize w6.alloc boxB = w7 at ca6 cb HA6 HR6 B6 ⊢
  (with_reducible refine (best_bad C _ HA6 n9 hq).mono ?_)
  rintro e w8 ⟨rfl, rfl⟩
  go_wp2_with (first
    | (go_at_call 22; (with_reducible refine (best_bad C _ HR6 n9 hq2).mono ?_); rintro e w9 ⟨rfl, rfl⟩)
    | fail)
  go_ret
  exact ⟨rfl, B6.out⟩
set_option maxHeartbeats 2000000 in
set_option maxRecDepth 100000 in
theorem order_ok {ad : Option Addr} {cap n m : Nat} {ws : Nat → Nat} (w : World) (HA : Hid (IntAt w ad cap n (fun i => (ws i : Int)))) (hn : n ≤ 400) (hm : 0 < m) (hm8 : m ≤ 8) (hw : Hid (∀ i, i < n → ws i ≤ 1073741824)) (hq : Hid (wrongV (fun i => (ws i : Int)) n m = 0)) :
    Calls Try.prog 6 #[.slice ad n cap, .int .i64 (m : Int)] w (Yes w) := by
  have n9 : n ≤ 9223372036854775807 := by omega
  have n1 : n ≤ 17592186044415 := by omega
  have m9 : m ≤ 9 := by omega
  have hq2 : Hid (wrongV (fun i => ((ws (n - 1 - i) : Nat) : Int)) n m = 0) := Lib.hid ((wrong_turn (fun i => (ws i : Int)) n m).trans hq.out)
  have hw2 : Hid (∀ i, i < n → ws (n - 1 - i) ≤ 1073741824) := Lib.hid fun i hi => hw.out _ (by omega)
  go_enter Try.func6, Try.ntmps6
  go_wp2_with (first
    | (go_at_call 18; (with_reducible refine (alive5_R _).mono ?_); rintro e w1 ⟨rfl, hb1⟩; have B1 := Lib.hid hb1; have HA1 := Lib.hid (HA.out.step hb1); clear hb1)
    | (go_at_call 19; (with_reducible refine (clone_R _ HA1 n1).mono ?_); rintro e w2 ⟨ra, rc, rfl, ho, hb2⟩; have HB2 := Lib.hid hb2; have HO2 := Lib.hid ho; clear hb2 ho)
    | (go_at_call 20; (with_reducible refine (reverse_R _ HB2 HO2 n1).mono ?_); rintro e w3 ⟨rfl, ho, hb3⟩; have B3 := Lib.hid (grow B1.out hb3); have HA3 := Lib.hid (HA1.out.step hb3); have HR3 : Hid (IntAt w3 ra rc n (fun i => (((fun i => ws (n - 1 - i)) i : Nat) : Int))) := Lib.hid ho.at; clear hb3 ho)
    | fail)
  go_at_call 21
  (with_reducible refine (long_ok _ HA3 hn hm hm8 hw hq).mono ?_)
  rintro e w4 ⟨O, hp, hs, Ba, he, hr, hB, hb4⟩
  obtain ⟨mo, hmo⟩ : ∃ q, mostP ws m O n = q := ⟨_, rfl⟩
  have HT := Lib.hid fun K hK sK => (long_turn (K := K) (m := m) hp hs hK sK).symm.trans hmo
  rw [hmo] at he
  subst he
  have B4 := Lib.hid (grow (grow B3.out hb4) (below_al w4 (boxP Ba n mo)))
  have HA4 := Lib.hid ((HA3.out.step hb4).step (below_al w4 (boxP Ba n mo)))
  have HR4 := Lib.hid ((HR3.out.step hb4).step (below_al w4 (boxP Ba n mo)))
  have ca := box_most w4 Ba n mo
  clear hb4 hp hs hmo hr hB HA HA1 HB2 HO2 HA3 HR3 B1 B3
  go_wp2_with fail
  change Calls _ _ _ (w4.alloc (boxP Ba n mo)) _
  generalize w4.alloc (boxP Ba n mo) = w5 at ca HA4 HR4 B4 ⊢
  have lt5 := block_lt_of_cell ca
  simp only at lt5
  (with_reducible refine (long_ok _ HR4 hn hm hm8 hw2 hq2).mono ?_)
  rintro e w6 ⟨K, hp, hs, Bb, he, hr, hB, hb6⟩
  rw [HT.out K hp hs] at he
  subst he
  have B6 := Lib.hid (grow (grow B4.out hb6) (below_al w6 (boxP Bb n mo)))
  have HA6 := Lib.hid ((HA4.out.step hb6).step (below_al w6 (boxP Bb n mo)))
  have HR6 := Lib.hid ((HR4.out.step hb6).step (below_al w6 (boxP Bb n mo)))
  have cb := box_most w6 Bb n mo
  have ca6 : (w6.alloc (boxP Bb n mo)).cell? ⟨w4.heap.size, 1, none⟩ = some (.int .i64 (mo : Int)) := ((grow hb6 (below_al w6 (boxP Bb n mo))).cell (p := ⟨w4.heap.size, 1, none⟩) lt5).trans ca
  clear hb6 ca hp hs hr hB HA4 HR4 B4 HT
  go_wp2_with fail
  change Calls _ _ _ (w6.alloc (boxP Bb n mo)) _
  generalize w6.alloc (boxP Bb n mo) = w7 at ca6 cb HA6 HR6 B6 ⊢
  have lta := block_lt_of_cell ca6
  have ltb := block_lt_of_cell cb
  simp only at lta ltb
  by_cases h9 : n ≤ 9
  · (with_reducible refine (best_ok _ HA6 h9 hm m9 hw hq).mono ?_)
    rintro e w8 ⟨v, hv, hv2, rfl, hb8⟩
    have B8 := Lib.hid (grow B6.out hb8)
    have HR8 := Lib.hid (HR6.out.step hb8)
    have ca8 : w8.cell? ⟨w4.heap.size, 1, none⟩ = some (.int .i64 (mo : Int)) := (hb8.cell (p := ⟨w4.heap.size, 1, none⟩) lta).trans ca6
    have cb8 : w8.cell? ⟨w6.heap.size, 1, none⟩ = some (.int .i64 (mo : Int)) := (hb8.cell (p := ⟨w6.heap.size, 1, none⟩) ltb).trans cb
    have lta8 := block_lt_of_cell ca8
    have ltb8 := block_lt_of_cell cb8
    simp only at lta8 ltb8
    have HV := Lib.hid (best_turn hv)
    clear ca6 cb hb8 hv HA6 HR6 B6 lta ltb
    go_wp2_with fail
    go_at_call 22
    (with_reducible refine (best_ok _ HR8 h9 hm m9 hw2 hq2).mono ?_)
    rintro e w9 ⟨u, hu, hu2, rfl, hb9⟩
    obtain rfl := best_uniq hu HV.out
    have B9 := Lib.hid (grow B8.out hb9)
    have ca9 : w9.cell? ⟨w4.heap.size, 1, none⟩ = some (.int .i64 (mo : Int)) := (hb9.cell (p := ⟨w4.heap.size, 1, none⟩) lta8).trans ca8
    have cb9 : w9.cell? ⟨w6.heap.size, 1, none⟩ = some (.int .i64 (mo : Int)) := (hb9.cell (p := ⟨w6.heap.size, 1, none⟩) ltb8).trans cb8
    clear ca8 cb8 hb9 hu
    go_wp2_with fail
    go_ret
    exact ⟨rfl, B9.out⟩
  · (with_reducible refine (best_full (m : Int) _ HA6 n9 (by omega) hq).mono ?_)
    rintro e w8 ⟨rfl, rfl⟩
    go_wp2_with fail
    go_at_call 22
    (with_reducible refine (best_full (m : Int) _ HR6 n9 (by omega) hq2).mono ?_)
    rintro e w9 ⟨rfl, rfl⟩
    go_wp2_with fail
    go_ret
    exact ⟨rfl, B6.out⟩
theorem spreadOrder_any (v : Value) (C : Int) (w : World) (g : ArgI w v) (hl : lenOf v ≤ 17592186044415) : Calls Try.prog 6 #[v, .int .i64 C] w (Yes w) := by
  obtain ⟨ad, n, cap, f, rfl, hn, HA⟩ := g
  by_cases hq : wrongV f n C = 0
  · obtain ⟨m, ws, rfl, ⟨h1, h2, h3⟩, h4, h5⟩ := wrong_pass hq
    exact order_ok w (Lib.hid (HA.congr fun i hi => (h5 i hi).symm)) h3 h1 h2 (Lib.hid h4) (Lib.hid (wrong_zero h3 h1 h2 h4))
  · exact order_bad C w (Lib.hid HA) hl (Lib.hid (wrong_two hq))
end Go.Proofs.Ytmldedkmmhnihaa
