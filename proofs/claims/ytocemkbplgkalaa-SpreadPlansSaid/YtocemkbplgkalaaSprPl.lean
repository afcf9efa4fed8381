/- Wrong, List and Longest answer what the document says: the walk of SpreadPlans. -/
import Derived.Test.YtocemkbplgkalaaSprEl
import Derived.Deep.RegionHeld3
namespace Go.Proofs.Ytocemkbplgkalaa
open Go.RowKit

def boxN : Obj := .cells #[.slice none 0 0, .int .i64 0] 24
theorem none_at (w : World) : IntAt w none 0 0 (fun _ => 0) := ⟨fun _ => ⟨rfl, rfl⟩, fun h => by omega⟩
theorem boxN_core (w : World) : (w.alloc boxN).cell? ⟨w.heap.size, 0, none⟩ = some (.slice none 0 0) := by
  unfold boxN
  rw [cell_of_row _ _ 0 _ _ _ (heap_alloc_new w _)]; rfl
theorem boxN_most (w : World) : (w.alloc boxN).cell? ⟨w.heap.size, 1, none⟩ = some (.int .i64 0) := by
  unfold boxN
  rw [cell_of_row _ _ 1 _ _ _ (heap_alloc_new w _)]; rfl
/-- Where a plan lies. -/
def BoxAt (w : World) (b : Nat) (s : Value) (M : Int) : Prop := b < w.heap.size ∧ w.cell? ⟨b, 0, none⟩ = some s ∧ w.cell? ⟨b, 1, none⟩ = some (.int .i64 M)
theorem BoxAt.step {w w' : World} {b : Nat} {s : Value} {M : Int} (h : BoxAt w b s M) (hb : Below w.heap.size w w') : BoxAt w' b s M :=
  ⟨Nat.lt_of_lt_of_le h.1 hb.size, (hb.cell (p := ⟨b, 0, none⟩) h.1).trans h.2.1, (hb.cell (p := ⟨b, 1, none⟩) h.1).trans h.2.2⟩
theorem eplan_T {ad oa : Option Addr} {cap oc n m : Nat} {ws O K : Nat → Nat} {M : Nat} {A : Nat → Nat} (hn : n ≤ 400) (hm : 0 < m) (hm8 : m ≤ 8) (w : World) (HW : Hid (IntAt w ad cap n (fun i => (ws i : Int)))) (HO : Hid (IntAt w oa oc n (fun i => (O i : Int))))
    (hw : Hid (∀ i, i < n → ws i ≤ 1073741824)) (hp : Hid (Perm O n)) (hK : Hid (∀ i, i < n → O i = K i)) (hM : Hid (mostP ws m K n = M)) (hA : Hid ((planP ws m K n).2 = A)) :
    Calls Try.prog 15 #[.slice ad n cap, .int .i64 (m : Int), .slice oa n oc] w fun e w' => ∃ B, e = .returned (.agg #[.slice (some ⟨B, 0, none⟩) n n, .int .i64 (M : Int)]) ∧ IntAt w' (some ⟨B, 0, none⟩) n n (fun i => (A i : Int)) ∧ Below w.heap.size w w' :=
  (eplan_R hn hm hm8 w HW HO hw (Lib.hid hp.out.1)).mono fun e w' ⟨B, h1, h2, _, h4⟩ => ⟨B, by rw [h1, mostP_congr hK.out, hM.out], by
    rw [plan2_congr hK.out, hA.out] at h2
    exact h2.at n, h4⟩
set_option maxHeartbeats 2000000 in
set_option maxRecDepth 100000 in
theorem lplans_bad {ad : Option Addr} {cap n : Nat} {f : Nat → Int} (C : Int) (w : World) (HA : Hid (IntAt w ad cap n f)) (hn : n ≤ 9223372036854775807) (hq : Hid (wrongV f n C = 2)) :
    Calls Try.prog 3 #[.slice ad n cap, .int .i64 C] w (Yes w) := by
  have HZ : Hid (∀ w, IntAt w none 0 0 (fun _ => 0)) := Lib.hid none_at
  go_enter Try.func3, Try.ntmps3
  go_wp2_with fail
  go_at_call 10
  (with_reducible refine (list_bad C _ HA hn hq).mono ?_)
  rintro e w4 ⟨rfl, hb4⟩
  have B4 := Lib.hid (grow hb4 (below_al w4 boxN))
  have HA4 := Lib.hid ((HA.out.step hb4).step (below_al w4 boxN))
  have K4 : BoxAt (w4.alloc boxN) w4.heap.size (.slice none 0 0) 0 := ⟨by simp, boxN_core w4, boxN_most w4⟩
  clear hb4
  go_wp2_with fail
  change Calls _ _ _ (w4.alloc boxN) _
  generalize w4.alloc boxN = w5 at K4 HA4 B4 ⊢
  (with_reducible refine (long_bad C _ HA4 hn hq).mono ?_)
  rintro e w6 ⟨rfl, hb6⟩
  have B6 := Lib.hid (grow (grow B4.out hb6) (below_al w6 boxN))
  have HA6 := Lib.hid ((HA4.out.step hb6).step (below_al w6 boxN))
  have K6 := Lib.hid (K4.step (grow hb6 (below_al w6 boxN)))
  have J6 : Hid (BoxAt (w6.alloc boxN) w6.heap.size (.slice none 0 0) 0) := Lib.hid ⟨by simp, boxN_core w6, boxN_most w6⟩
  clear hb6 K4
  go_wp2_with fail
  change Calls _ _ _ (w6.alloc boxN) _
  generalize w6.alloc boxN = w7 at K6 J6 HA6 B6 ⊢
  have c0 := K6.out.2.1
  have c1 := K6.out.2.2
  have d0 := J6.out.2.1
  have d1 := J6.out.2.2
  (with_reducible refine (ewrong_R C _ HA6 hn 2 hq).mono ?_)
  rintro e w8 ⟨rfl, rfl⟩
  go_wp2_with (first
    | (go_at_call 13; (with_reducible refine (wrong_R C _ HA6 hn 2 hq).mono ?_); rintro e w9 ⟨rfl, rfl⟩)
    | fail)
  go_at_call 14
  (with_reducible refine (same_R _ (Lib.hid (HZ.out w7)) (Lib.hid (HZ.out w7)) (by omega) (Lib.hid fun _ _ => rfl)).mono ?_)
  rintro e w8 ⟨rfl, hb8⟩
  have B8 := Lib.hid (grow B6.out hb8)
  have J8 := Lib.hid (J6.out.step hb8)
  have e0 := J8.out.2.1
  have e1 := J8.out.2.2
  clear hb8 c0 c1 d0 d1
  go_wp2_with fail
  go_at_call 14
  (with_reducible refine (same_R _ (Lib.hid (HZ.out w8)) (Lib.hid (HZ.out w8)) (by omega) (Lib.hid fun _ _ => rfl)).mono ?_)
  rintro e w9 ⟨rfl, hb9⟩
  have B9 := Lib.hid (grow B8.out hb9)
  go_wp2_with fail
  go_ret
  exact ⟨rfl, B9.out⟩
theorem boxP_at (w : World) (B n mo : Nat) : BoxAt (w.alloc (boxP B n mo)) w.heap.size (.slice (some ⟨B, 0, none⟩) n n) (mo : Int) := ⟨by simp, box_core w B n mo, box_most w B n mo⟩
/-- All that the last statement reads. -/
def PlS (W : World) (a b : Nat) (ad : Option Addr) (cap n : Nat) (ws : Nat → Nat) (Ba Ma Bb Mb : Nat) (Aa Ab : Nat → Nat) (w : World) : Prop :=
  (Below W.heap.size W w ∧ IntAt w ad cap n (fun i => (ws i : Int))) ∧ (IntAt w (some ⟨Ba, 0, none⟩) n n (fun i => (Aa i : Int)) ∧ IntAt w (some ⟨Bb, 0, none⟩) n n (fun i => (Ab i : Int))) ∧
  BoxAt w a (.slice (some ⟨Ba, 0, none⟩) n n) (Ma : Int) ∧ BoxAt w b (.slice (some ⟨Bb, 0, none⟩) n n) (Mb : Int)
section
variable {W w w' : World} {a b : Nat} {ad : Option Addr} {cap n m : Nat} {ws : Nat → Nat} {Ba Ma Bb Mb : Nat} {Aa Ab : Nat → Nat}
theorem PlS.step (h : PlS W a b ad cap n ws Ba Ma Bb Mb Aa Ab w) (hb : Below w.heap.size w w') : PlS W a b ad cap n ws Ba Ma Bb Mb Aa Ab w' :=
  ⟨⟨grow h.1.1 hb, h.1.2.step hb⟩, ⟨h.2.1.1.step hb, h.2.1.2.step hb⟩, h.2.2.1.step hb, h.2.2.2.step hb⟩
theorem PlS.drew (h : PlS W a b ad cap n ws Ba Ma Bb Mb Aa Ab w) : PlS W a b ad cap n ws Ba Ma Bb Mb Aa Ab w.drew := h.step (Below.refl w.heap.size w).drew
theorem PlS.all (h : PlS W a b ad cap n ws Ba Ma Bb Mb Aa Ab w) : PlS W a b ad cap n ws Ba Ma Bb Mb Aa Ab w ∧ w.cell? ⟨a, 0, none⟩ = some (.slice (some ⟨Ba, 0, none⟩) n n) ∧ w.cell? ⟨a, 1, none⟩ = some (.int .i64 (Ma : Int)) ∧ w.cell? ⟨b, 0, none⟩ = some (.slice (some ⟨Bb, 0, none⟩) n n) ∧ w.cell? ⟨b, 1, none⟩ = some (.int .i64 (Mb : Int)) :=
  ⟨h, h.2.2.1.2.1, h.2.2.1.2.2, h.2.2.2.2.1, h.2.2.2.2.2⟩
theorem pl_wrong (w : World) (n9 : n ≤ 9223372036854775807) (hq : Hid (wrongV (fun i => (ws i : Int)) n m = 0)) (h : PlS W a b ad cap n ws Ba Ma Bb Mb Aa Ab w) :
    Calls Try.prog 13 #[.slice ad n cap, .int .i64 (m : Int)] w fun e w' => e = .returned (.int .i64 0) ∧ PlS W a b ad cap n ws Ba Ma Bb Mb Aa Ab w' :=
  (wrong_R (m : Int) w (Lib.hid h.1.2) n9 0 hq).mono fun _ _ ⟨h1, h2⟩ => ⟨h1, h2 ▸ h⟩
theorem pl_order (lg : Bool) (kw K : Nat → Nat) (hk : Hid (kw = if lg = true then ws else fun _ => 0)) (hpK : Hid (Perm K n ∧ Srt kw K 0 n)) (w : World) (hn : n ≤ 400) (h : PlS W a b ad cap n ws Ba Ma Bb Mb Aa Ab w) :
    Calls Try.prog 16 #[.slice ad n cap, .bool lg] w fun e w' => ∃ (ra : Option Addr) (rc : Nat) (O : Nat → Nat), e = .returned (.slice ra n rc) ∧ Hid (IntAt w' ra rc n (fun i => (O i : Int)) ∧ Perm O n ∧ ∀ i, i < n → O i = K i) ∧ PlS W a b ad cap n ws Ba Ma Bb Mb Aa Ab w' :=
  (eorder_R lg hk w (Lib.hid h.1.2) hn).mono fun _ _ ⟨ra, rc, O, h1, h2, h3, h4, h5⟩ => ⟨ra, rc, O, h1, Lib.hid ⟨h2, h3, srt_uniq h3 h4 hpK.out.1 hpK.out.2⟩, h.step h5⟩
theorem pl_plan {oa : Option Addr} {oc : Nat} {O : Nat → Nat} (K A : Nat → Nat) (M : Nat) (hM : Hid (mostP ws m K n = M)) (hA : Hid ((planP ws m K n).2 = A)) (w : World) (hn : n ≤ 400) (hm : 0 < m) (hm8 : m ≤ 8) (hw : Hid (∀ i, i < n → ws i ≤ 1073741824))
    (hO : Hid (IntAt w oa oc n (fun i => (O i : Int)) ∧ Perm O n ∧ ∀ i, i < n → O i = K i)) (h : PlS W a b ad cap n ws Ba Ma Bb Mb Aa Ab w) :
    Calls Try.prog 15 #[.slice ad n cap, .int .i64 (m : Int), .slice oa n oc] w fun e w' => ∃ B, e = .returned (.agg #[.slice (some ⟨B, 0, none⟩) n n, .int .i64 (M : Int)]) ∧ Hid (IntAt w' (some ⟨B, 0, none⟩) n n (fun i => (A i : Int))) ∧ PlS W a b ad cap n ws Ba Ma Bb Mb Aa Ab w' :=
  (eplan_T hn hm hm8 w (Lib.hid h.1.2) (Lib.hid hO.out.1) hw (Lib.hid hO.out.2.1) (Lib.hid hO.out.2.2) hM hA).mono fun _ _ ⟨B, h1, h2, h3⟩ => ⟨B, h1, Lib.hid h2, h.step h3⟩
theorem pl_sameA {B : Nat} (w : World) (hn : n ≤ 1000) (hB : Hid (IntAt w (some ⟨B, 0, none⟩) n n (fun i => (Aa i : Int)))) (h : PlS W a b ad cap n ws Ba Ma Bb Mb Aa Ab w) :
    Calls Try.prog 14 #[.agg #[.slice (some ⟨Ba, 0, none⟩) n n, .int .i64 (Ma : Int)], .agg #[.slice (some ⟨B, 0, none⟩) n n, .int .i64 (Ma : Int)]] w fun e w' => e = .returned (.bool true) ∧ PlS W a b ad cap n ws Ba Ma Bb Mb Aa Ab w' :=
  (same_R w (Lib.hid h.2.1.1) hB hn (Lib.hid fun _ _ => rfl)).mono fun _ _ ⟨h1, h2⟩ => ⟨h1, h.step h2⟩
theorem pl_sameB {B : Nat} (w : World) (hn : n ≤ 1000) (hB : Hid (IntAt w (some ⟨B, 0, none⟩) n n (fun i => (Ab i : Int)))) (h : PlS W a b ad cap n ws Ba Ma Bb Mb Aa Ab w) :
    Calls Try.prog 14 #[.agg #[.slice (some ⟨Bb, 0, none⟩) n n, .int .i64 (Mb : Int)], .agg #[.slice (some ⟨B, 0, none⟩) n n, .int .i64 (Mb : Int)]] w fun e w' => e = .returned (.bool true) ∧ PlS W a b ad cap n ws Ba Ma Bb Mb Aa Ab w' :=
  (same_R w (Lib.hid h.2.1.2) hB hn (Lib.hid fun _ _ => rfl)).mono fun _ _ ⟨h1, h2⟩ => ⟨h1, h.step h2⟩
end
set_option maxHeartbeats 4000000 in
set_option maxRecDepth 100000 in
theorem lplans_ok {ad : Option Addr} {cap n m : Nat} {ws : Nat → Nat} (w : World) (HA : Hid (IntAt w ad cap n (fun i => (ws i : Int)))) (hn : n ≤ 400) (hm : 0 < m) (hm8 : m ≤ 8) (hw : Hid (∀ i, i < n → ws i ≤ 1073741824)) (hq : Hid (wrongV (fun i => (ws i : Int)) n m = 0)) :
    Calls Try.prog 3 #[.slice ad n cap, .int .i64 (m : Int)] w (Yes w) := by
  have n9 : n ≤ 9223372036854775807 := by omega
  have n1000 : n ≤ 1000 := by omega
  go_enter Try.func3, Try.ntmps3
  go_wp2_with fail
  go_at_call 10
  (with_reducible refine (list_ok _ HA hn hm hm8 hw hq).mono ?_)
  rintro e w4 ⟨Ba, he, hr, hB, hb4⟩
  obtain ⟨Ma, hMa⟩ : ∃ q, mostP ws m (fun i => i) n = q := ⟨_, rfl⟩
  obtain ⟨Aa, hAa⟩ : ∃ q, (planP ws m (fun i => i) n).2 = q := ⟨_, rfl⟩
  rw [hMa] at he
  rw [hAa] at hr
  subst he
  have HMa := Lib.hid hMa
  have HAa := Lib.hid hAa
  have B4 := Lib.hid (grow hb4 (below_al w4 (boxP Ba n Ma)))
  have HA4 := Lib.hid ((HA.out.step hb4).step (below_al w4 (boxP Ba n Ma)))
  have HR4 := Lib.hid ((hr.at n).step (below_al w4 (boxP Ba n Ma)))
  have K4 := Lib.hid (boxP_at w4 Ba n Ma)
  clear hb4 hr hB hMa hAa
  go_wp2_with fail
  change Calls _ _ _ (w4.alloc (boxP Ba n Ma)) _
  generalize w4.alloc (boxP Ba n Ma) = w5 at K4 HA4 HR4 B4 ⊢
  (with_reducible refine (long_ok _ HA4 hn hm hm8 hw hq).mono ?_)
  rintro e w6 ⟨O, hp, hs, Bb, he, hr, hB, hb6⟩
  obtain ⟨Mb, hMb⟩ : ∃ q, mostP ws m O n = q := ⟨_, rfl⟩
  obtain ⟨Ab, hAb⟩ : ∃ q, (planP ws m O n).2 = q := ⟨_, rfl⟩
  rw [hMb] at he
  rw [hAb] at hr
  subst he
  have HMb := Lib.hid hMb
  have HAb := Lib.hid hAb
  have HPO := Lib.hid hp
  have HSO := Lib.hid hs
  have B6 := Lib.hid (grow (grow B4.out hb6) (below_al w6 (boxP Bb n Mb)))
  have HA6 := Lib.hid ((HA4.out.step hb6).step (below_al w6 (boxP Bb n Mb)))
  have HR6 := Lib.hid ((HR4.out.step hb6).step (below_al w6 (boxP Bb n Mb)))
  have HS6 := Lib.hid ((hr.at n).step (below_al w6 (boxP Bb n Mb)))
  have K6 := Lib.hid (K4.out.step (grow hb6 (below_al w6 (boxP Bb n Mb))))
  have J6 := Lib.hid (boxP_at w6 Bb n Mb)
  clear hb6 K4 HA4 HR4 B4 hr hB hMb hAb hp hs
  go_wp2_with fail
  change Calls _ _ _ (w6.alloc (boxP Bb n Mb)) _
  generalize w6.alloc (boxP Bb n Mb) = w7 at K6 J6 HA6 HR6 HS6 B6 ⊢
  (with_reducible refine (ewrong_R (m : Int) _ HA6 n9 0 hq).mono ?_)
  rintro e w8 ⟨rfl, rfl⟩
  go_wp2_with fail
  have PS : PlS w w4.heap.size w6.heap.size ad cap n ws Ba Ma Bb Mb Aa Ab w7 := ⟨⟨B6.out, HA6.out⟩, ⟨HR6.out, HS6.out⟩, K6.out, J6.out⟩
  have PSd := PS.drew
  have HKf : Hid ((fun _ : Nat => 0) = if false = true then ws else fun _ => 0) := Lib.hid rfl
  have HKt : Hid (ws = if true = true then ws else fun _ => 0) := Lib.hid rfl
  have HPf : Hid (Perm (fun i : Nat => i) n ∧ Srt (fun _ => 0) (fun i => i) 0 n) := Lib.hid ⟨perm_id n, fun _ _ _ hij _ => Or.inr ⟨rfl, hij⟩⟩
  have HPt := Lib.hid (And.intro HPO.out HSO.out)
  clear HA6 HR6 HS6 K6 J6 B6 PS
  go_upto_region 6 with fail
  go_region_held3 (fun w' => PlS w w4.heap.size w6.heap.size ad cap n ws Ba Ma Bb Mb Aa Ab w' ∧ w'.cell? ⟨w4.heap.size, 0, none⟩ = some (.slice (some ⟨Ba, 0, none⟩) n n) ∧ w'.cell? ⟨w4.heap.size, 1, none⟩ = some (.int .i64 (Ma : Int)) ∧ w'.cell? ⟨w6.heap.size, 0, none⟩ = some (.slice (some ⟨Bb, 0, none⟩) n n) ∧ w'.cell? ⟨w6.heap.size, 1, none⟩ = some (.int .i64 (Mb : Int)))
    ((refine PlS.all ?_; with_reducible assumption))
    (first
      | (go_at_call 13; (with_reducible refine (pl_wrong (W := w) _ n9 hq (by with_reducible assumption)).mono ?_); rintro e x0 ⟨rfl, TT⟩)
      | (go_at_call 16; (with_reducible refine (pl_order (W := w) false _ _ HKf HPf _ hn (by with_reducible assumption)).mono ?_); rintro e x1 ⟨ra, rc, P1, rfl, HO1, TT⟩)
      | (go_at_call 16; (with_reducible refine (pl_order (W := w) true _ _ HKt HPt _ hn (by with_reducible assumption)).mono ?_); rintro e x1 ⟨ra, rc, P1, rfl, HO4, TT⟩)
      | (go_at_call 15; (with_reducible refine (pl_plan (W := w) _ _ _ HMa HAa _ hn hm hm8 hw HO1 (by with_reducible assumption)).mono ?_); rintro e x1 ⟨Bc, rfl, HQ1, TT⟩)
      | (go_at_call 15; (with_reducible refine (pl_plan (W := w) _ _ _ HMb HAb _ hn hm hm8 hw HO4 (by with_reducible assumption)).mono ?_); rintro e x1 ⟨Bc, rfl, HQ4, TT⟩)
      | (go_at_call 14; (with_reducible refine (pl_sameA (W := w) _ n1000 HQ1 (by with_reducible assumption)).mono ?_); rintro e x1 ⟨rfl, TT⟩)
      | (go_at_call 14; (with_reducible refine (pl_sameB (W := w) _ n1000 HQ4 (by with_reducible assumption)).mono ?_); rintro e x1 ⟨rfl, TT⟩))
  all_goals go_wp2_with fail
  all_goals go_ret
  all_goals exact ⟨rfl, (by assumption : PlS w w4.heap.size w6.heap.size ad cap n ws Ba Ma Bb Mb Aa Ab _).1.1⟩
theorem spreadPlans_walk (v : Value) (C : Int) (w : World) (g : ArgI w v) : Calls Try.prog 3 #[v, .int .i64 C] w (Yes w) := by
  obtain ⟨ad, n, cap, f, rfl, hn, HA⟩ := g
  by_cases hq : wrongV f n C = 0
  · obtain ⟨m, ws, rfl, ⟨h1, h2, h3⟩, h4, h5⟩ := wrong_pass hq
    exact lplans_ok w (Lib.hid (HA.congr fun i hi => (h5 i hi).symm)) h3 h1 h2 (Lib.hid h4) (Lib.hid (wrong_zero h3 h1 h2 h4))
  · exact lplans_bad C w (Lib.hid HA) hn (Lib.hid (wrong_two hq))
end Go.Proofs.Ytocemkbplgkalaa
