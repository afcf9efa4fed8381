/- Package spread: the walks of asGiven, assign, List. -/
import Derived.Test.YtmldedkmmhnihaaSprM
import Derived.Test.YtmldedkmmhnihaaSprA
import Derived.StillTailTactics
import Derived.Deep.QuietTactic
import Derived.Deep.OwnRows
import Derived.BigQuiet
import Derived.BigRegion
import Derived.RegionTactic
import Derived.IntWalk
import Derived.Outline
namespace Go.Proofs.Ytmldedkmmhnihaa
open Go.RowKit

theorem RowI.far {w : World} {B n : Nat} {f : Nat → Nat} (r : RowI w B n f) {p : Addr} {v : Value} (h : ¬ B = p.block) : RowI (w.setCell p v) B n f := r.same (heap_setCell_other _ _ _ _ h)
/-- An old block reads as it did. -/
theorem bat {W w : World} (hb : Below W.heap.size W w) (b : Nat) (h : b < W.heap.size) : (∀ o, w.cell? ⟨b, o, none⟩ = W.cell? ⟨b, o, none⟩) ∧ ∀ o, w.frozen? ⟨b, o, none⟩ = W.frozen? ⟨b, o, none⟩ :=
  ⟨fun o => hb.cell (p := ⟨b, o, none⟩) h, fun o => hb.frozen (p := ⟨b, o, none⟩) h⟩
theorem lt_of_alloc {w w1 : World} {o : Obj} (hb : Below (w.alloc o).heap.size (w.alloc o) w1) : w.heap.size < w1.heap.size := by
  have := hb.size
  simp at this
  omega
theorem below_more {W w : World} (h : Below W.heap.size W w) (o : Obj) : Below W.heap.size W (w.alloc o) := h.alloc h.size o
/-- A row that was just made. -/
theorem RowI.fresh (w : World) (n : Nat) : RowI (w.alloc (.cells (madeCells #[.int .i64 0] n) 3)) w.heap.size n (fun _ => 0) := by
  refine ⟨_, heap_alloc_new w _, fun i hi => ?_⟩
  unfold madeCells
  rw [Array.getElem?_map, Array.getElem?_range, if_pos hi]
  show some ((#[Value.int .i64 0] : Array Value)[i % 1]!) = _
  rw [Nat.mod_one]
  rfl
/-- A row of numbers that a call gives. -/
def RowOut (W : World) (n : Nat) (f : Nat → Nat) (e : Ending) (w' : World) : Prop :=
  ∃ B, e = .returned (.slice (some ⟨B, 0, none⟩) n n) ∧ RowI w' B n f ∧ W.heap.size ≤ B ∧ Below W.heap.size W w'
set_option maxHeartbeats 1000000 in
theorem given_R {ad : Option Addr} {cap n : Nat} (hn : n ≤ 400) (w : World) : Calls Try.prog 43 #[.slice ad n cap] w (RowOut w n (fun i => i)) := by
  have hmk := run_make_row' (P := Try.prog) 47 3 (.int .i64 0) 8 Try.underlying47 info_int rfl .i64 .i64 n (by omega) (by omega)
  go_enter Try.func43, Try.ntmps43
  go_wp2
  go_loopw [10] (fun i wr => ∃ k : Nat, k ≤ n ∧ i = .int .i64 k ∧ RowI wr w.heap.size n (fun i => if i < k then i else 0) ∧ Below w.heap.size w wr) (fun i _ => n - (intOf i).toNat)
  case atStart => exact ⟨0, Nat.zero_le _, rfl, (RowI.fresh w n).congr fun i _ => by simp, (Below.refl _ _).alloc (Nat.le_refl _) _⟩
  case round =>
    obtain ⟨k, hk, rfl, hr, hb⟩ := hrel
    have HR := Lib.hid hr
    have HB := Lib.hid hb
    by_cases hlt : k < n
    · have jc := hr.cell hlt
      have jf := hr.frozen k
      clear hr hb
      go_wp2
      go_roundw
      case rel => exact ⟨k + 1, by omega, by go_num, (HR.out.put hlt k).congr fun i _ => by
        by_cases e : i = k
        · rw [e, upd_same, if_pos (by omega)]
        · rw [upd_other e]
          by_cases g : i < k
          · rw [if_pos g, if_pos (by omega)]
          · rw [if_neg g, if_neg (by omega)], HB.out.setCell (p := ⟨w.heap.size, k, none⟩) (Nat.le_refl _) _⟩
      case measure => simp [intOf]; omega
    · obtain rfl : k = n := by omega
      clear hr hb hlt hk
      go_wp2
      go_ret
      exact ⟨_, rfl, HR.out.congr fun i hi => by rw [if_pos hi], Nat.le_refl _, HB.out⟩
/-- The memory of assign: the loads' row, the cores' row, the result, the plan. -/
def AS (W0 : World) (m n : Nat) (L A : Nat → Nat) (w : World) : Prop :=
  (Below W0.heap.size W0 w ∧ RowI w (W0.heap.size + 1) m L ∧ RowI w (W0.heap.size + 1 + 1) n A) ∧
  w.heap[W0.heap.size]? = some (.cells #[.slice none 0 0, .int .i64 0] 51 (0, 0)) ∧
  w.heap[W0.heap.size + 1 + 1 + 1]? = some (.cells #[.slice (some ⟨W0.heap.size + 1 + 1, 0, none⟩) n n, .int .i64 0] 51 (0, 0))
section
variable {W0 w : World} {m n : Nat} {L A : Nat → Nat}
theorem AS.drew (s : AS W0 m n L A w) : AS W0 m n L A w.drew := ⟨⟨s.1.1.drew, s.1.2⟩, s.2⟩
theorem AS.putL (s : AS W0 m n L A w) {c : Nat} (hc : c < m) (v : Nat) : AS W0 m n (upd L c v) A (w.setCell ⟨W0.heap.size + 1, c, none⟩ (.int .i64 (v : Int))) := by
  obtain ⟨⟨h1, h2, h3⟩, h4, h5⟩ := s
  have ho : ∀ k, ¬ k = W0.heap.size + 1 → (w.setCell ⟨W0.heap.size + 1, c, none⟩ (.int .i64 (v : Int))).heap[k]? = w.heap[k]? := fun k hk => heap_setCell_other _ _ _ _ (show k ≠ (⟨W0.heap.size + 1, c, none⟩ : Addr).block from hk)
  exact ⟨⟨h1.setCell (p := ⟨W0.heap.size + 1, c, none⟩) (by show W0.heap.size ≤ W0.heap.size + 1; omega) _, h2.put hc v, h3.same (ho _ (by omega))⟩, by rw [ho _ (by omega)]; exact h4, by rw [ho _ (by omega)]; exact h5⟩
theorem AS.putA (s : AS W0 m n L A w) {k : Nat} (hk : k < n) (v : Nat) : AS W0 m n L (upd A k v) (w.setCell ⟨W0.heap.size + 1 + 1, k, none⟩ (.int .i64 (v : Int))) := by
  obtain ⟨⟨h1, h2, h3⟩, h4, h5⟩ := s
  have ho : ∀ j, ¬ j = W0.heap.size + 1 + 1 → (w.setCell ⟨W0.heap.size + 1 + 1, k, none⟩ (.int .i64 (v : Int))).heap[j]? = w.heap[j]? := fun j hj => heap_setCell_other _ _ _ _ (show j ≠ (⟨W0.heap.size + 1 + 1, k, none⟩ : Addr).block from hj)
  exact ⟨⟨h1.setCell (p := ⟨W0.heap.size + 1 + 1, k, none⟩) (by show W0.heap.size ≤ W0.heap.size + 1 + 1; omega) _, h2.same (ho _ (by omega)), h3.put hk v⟩, by rw [ho _ (by omega)]; exact h4, by rw [ho _ (by omega)]; exact h5⟩
end
/-- A plan that a call gives. -/
def PlanOut (W : World) (ws : Nat → Nat) (m n : Nat) (O : Nat → Nat) (e : Ending) (w' : World) : Prop :=
  ∃ B, e = .returned (.agg #[.slice (some ⟨B, 0, none⟩) n n, .int .i64 (mostP ws m O n : Nat)]) ∧ RowI w' B n (planP ws m O n).2 ∧ W.heap.size ≤ B ∧ Below W.heap.size W w'
set_option maxHeartbeats 2000000 in
set_option maxRecDepth 100000 in
theorem assign_R {ad oa : Option Addr} {cap oc n m : Nat} {ws O : Nat → Nat} (hn : n ≤ 400) (hm : 0 < m) (hm8 : m ≤ 8) (w : World) (HW : Hid (IntAt w ad cap n (fun i => (ws i : Int)))) (HO : Hid (IntAt w oa oc n (fun i => (O i : Int))))
    (hw : Hid (∀ i, i < n → ws i ≤ 1073741824)) (ho : Hid (∀ j, j < n → O j < n)) :
    Calls Try.prog 36 #[.slice ad n cap, .int .i64 (m : Int), .slice oa n oc] w (PlanOut w ws m n O) := by
  have hmk := run_make_row' (P := Try.prog) 47 3 (.int .i64 0) 8 Try.underlying47 info_int rfl .i64 .i64 n (by omega) (by omega)
  have hmk2 := run_make_row' (P := Try.prog) 47 3 (.int .i64 0) 8 Try.underlying47 info_int rfl .i64 .i64 m (by omega) (by omega)
  go_enter Try.func36, Try.ntmps36
  go_wp2_with fail
  go_loopw [20] (fun i wr => ∃ j : Nat, j ≤ n ∧ i = .int .i64 j ∧ AS w m n (planP ws m O j).1 (planP ws m O j).2 wr) (fun i _ => n - (intOf i).toNat)
  case atStart =>
    clear hmk hmk2
    refine ⟨0, Nat.zero_le _, rfl, ⟨below_more (below_more (below_more (below_more (Below.refl _ _) _) _) _) _, ?_, ?_⟩, ?_, ?_⟩
    · show RowI _ _ _ (fun _ => 0)
      refine RowI.step (RowI.step (w := ((w.alloc (.cells #[.slice none 0 0, .int .i64 0] 51)).alloc (.cells (madeCells #[.int .i64 0] m) 3))) ?_ (Below.alloc (Below.refl _ _) (Nat.le_refl _) _)) (Below.alloc (Below.refl _ _) (Nat.le_refl _) _)
      have := RowI.fresh (w.alloc (.cells #[.slice none 0 0, .int .i64 0] 51)) m
      simpa using this
    · show RowI _ _ _ (fun _ => 0)
      refine RowI.step (w := (((w.alloc (.cells #[.slice none 0 0, .int .i64 0] 51)).alloc (.cells (madeCells #[.int .i64 0] m) 3)).alloc (.cells (madeCells #[.int .i64 0] n) 3))) ?_ (Below.alloc (Below.refl _ _) (Nat.le_refl _) _)
      have := RowI.fresh ((w.alloc (.cells #[.slice none 0 0, .int .i64 0] 51)).alloc (.cells (madeCells #[.int .i64 0] m) 3)) n
      simpa using this
    · rw [heap_alloc_old _ _ (by simp; omega), heap_alloc_old _ _ (by simp; omega), heap_alloc_old _ _ (by simp), heap_alloc_new]
    · have := heap_alloc_new (((w.alloc (.cells #[.slice none 0 0, .int .i64 0] 51)).alloc (.cells (madeCells #[.int .i64 0] m) 3)).alloc (.cells (madeCells #[.int .i64 0] n) 3)) (.cells #[.slice (some ⟨w.heap.size + 1 + 1, 0, none⟩) n n, .int .i64 0] 51)
      simpa using this
  case round =>
    clear hmk hmk2
    obtain ⟨j, hj, rfl, hs⟩ := hrel
    have S := Lib.hid hs
    by_cases hlt : j < n
    · have hload := load_le (m := m) hw.out ho.out j (by omega)
      obtain ⟨L, hL⟩ : ∃ L, (planP ws m O j).1 = L := ⟨_, rfl⟩
      obtain ⟨A, hA⟩ : ∃ A, (planP ws m O j).2 = A := ⟨_, rfl⟩
      rw [hL] at hload
      simp only [hL, hA] at hs S
      have hst : planP ws m O (j + 1) = putP ws m (L, A) (O j) := by rw [← hL, ← hA]; rfl
      have hk := ho.out j hlt
      have hwk := hw.out _ hk
      obtain ⟨qb, qo, hqe, hqb, hcw⟩ := HW.out.2 (by omega)
      obtain ⟨rb, ro, hre, hrb, hcr⟩ := HO.out.2 (by omega)
      subst hqe hre
      have ck : wr.cell? ⟨rb, ro + j, none⟩ = some (.int .i64 ((O j : Nat) : Int)) := (hs.1.1.cell (p := ⟨rb, ro + j, none⟩) hrb).trans (hcr j hlt)
      have cw : wr.cell? ⟨qb, qo + O j, none⟩ = some (.int .i64 ((ws (O j) : Nat) : Int)) := (hs.1.1.cell (p := ⟨qb, qo + O j, none⟩) hqb).trans (hcw _ hk)
      obtain ⟨hc, hmin, hfst⟩ := amin_spec L m hm
      obtain ⟨k, hke⟩ : ∃ k, O j = k := ⟨_, rfl⟩
      rw [hke] at ck cw hk hst hwk
      obtain ⟨wk, hwe⟩ : ∃ wk, ws k = wk := ⟨_, rfl⟩
      rw [hwe] at cw hwk
      obtain ⟨c, hce⟩ : ∃ c, amin L m = c := ⟨_, rfl⟩
      rw [hce] at hc hmin hfst
      obtain ⟨x, hxe⟩ : ∃ x, L c = x := ⟨_, rfl⟩
      have hxb : x ≤ 429496729600 := by
        have h1 := hload c
        rw [hxe] at h1
        have h2 : j * 1073741824 ≤ 400 * 1073741824 := Nat.mul_le_mul_right _ (by omega)
        omega
      obtain ⟨y, hy⟩ : ∃ y, x + wk = y := ⟨_, rfl⟩
      have HST : Hid (planP ws m O (j + 1) = (upd L c y, upd A k c)) := by
        refine Lib.hid ?_
        rw [hst, putP, hce]
        simp only [hxe, hwe, hy]
      have HMIN : Hid (L (amin L m) = x) := Lib.hid (by rw [hce, hxe])
      have HFST : Hid (∀ i, i < c → ¬ ((L i : Nat) : Int) = (x : Int)) := Lib.hid fun i hi h => by
        have := hfst i hi
        rw [hxe] at this
        omega
      have HXE : Hid (((L c : Nat) : Int) = (x : Int)) := Lib.hid (by rw [hxe])
      have jc := hs.1.2.1.cell hc
      rw [hxe] at jc
      have jf := hs.1.2.1.frozen c
      have ka := hs.1.2.2.cell hk
      have kf := hs.1.2.2.frozen k
      have pc : wr.cell? ⟨w.heap.size + 1 + 1 + 1, 0, none⟩ = some (.slice (some ⟨w.heap.size + 1 + 1, 0, none⟩) n n) := by rw [cell_of_row wr _ 0 _ _ _ hs.2.2]; rfl
      have HC : Hid (∀ i, i < m → wr.cell? ⟨w.heap.size + 1, 0 + i, none⟩ = some (.int .i64 (L i : Int))) := Lib.hid fun i hi => by rw [Nat.zero_add]; exact hs.1.2.1.cell hi
      have HAT : Hid (IntAt wr (some ⟨w.heap.size + 1, 0, none⟩) m m (fun i => (L i : Int))) := Lib.hid (hs.1.2.1.at m)
      clear hs hL hA hst hload hmin hfst hxe hwe hke hce hcw hcr
      go_wp2_with (first
        | (go_at_call 45; (with_reducible refine (min_R _ HC hm (by omega) x HMIN).mono ?_); rintro e w1 ⟨rfl, rfl⟩)
        | (go_at_call 44; (with_reducible refine (index_at (i := c) (x : Int) _ HAT (by omega) hc HXE HFST).mono ?_); rintro e w1 ⟨rfl, rfl⟩)
        | fail)
      have hsum : IntKind.i64.wrap ((x : Int) + (wk : Int)) = (y : Int) := by rw [IntWalk.i64_in _ (by omega)]; omega
      clear hy
      go_still_tail 10, (by kernel_rfl)
      change wpList _ _ _ _ _ wr.drew
      go_wp2_with fail
      clear hsum
      have S2 := Lib.hid (((S.out.putL hc y).putA hk c).drew)
      go_roundw
      case rel => exact ⟨j + 1, by omega, by go_num, by rw [HST.out]; exact S2.out⟩
      case measure => simp [intOf]; omega
    · obtain rfl : j = n := by omega
      have HC : Hid (∀ i, i < m → wr.cell? ⟨w.heap.size + 1, 0 + i, none⟩ = some (.int .i64 ((planP ws m O j).1 i : Int))) := Lib.hid fun i hi => by rw [Nat.zero_add]; exact hs.1.2.1.cell hi
      have p0 : wr.cell? ⟨w.heap.size + 1 + 1 + 1, 0, none⟩ = some (.slice (some ⟨w.heap.size + 1 + 1, 0, none⟩) j j) := by rw [cell_of_row wr _ 0 _ _ _ hs.2.2]; rfl
      have p1 : wr.cell? ⟨w.heap.size + 1 + 1 + 1, 1, none⟩ = some (.int .i64 0) := by rw [cell_of_row wr _ 1 _ _ _ hs.2.2]; rfl
      have p2 : wr.frozen? ⟨w.heap.size + 1 + 1 + 1, 1, none⟩ = false := frozen_of_row wr _ 1 _ _ hs.2.2
      have r0 : wr.cell? ⟨w.heap.size, 0, none⟩ = some (.slice none 0 0) := by rw [cell_of_row wr _ 0 _ _ _ hs.2.1]; rfl
      have r1 : wr.cell? ⟨w.heap.size, 1, none⟩ = some (.int .i64 0) := by rw [cell_of_row wr _ 1 _ _ _ hs.2.1]; rfl
      have r2 : wr.frozen? ⟨w.heap.size, 0, none⟩ = false := frozen_of_row wr _ 0 _ _ hs.2.1
      have r3 : wr.frozen? ⟨w.heap.size, 1, none⟩ = false := frozen_of_row wr _ 1 _ _ hs.2.1
      clear hs hlt hj
      obtain ⟨M, hM⟩ : ∃ M, mostP ws m O j = M := ⟨_, rfl⟩
      have HM : Hid (maxF (planP ws m O j).1 m = M) := Lib.hid hM
      clear hM
      go_wp2_with (first
        | (go_at_call 46; (with_reducible refine (max_R _ HC hm (by omega) M HM).mono ?_); rintro e w1 ⟨rfl, rfl⟩)
        | fail)
      refine bodyPost_ret (v := .agg #[.slice (some ⟨w.heap.size + 1 + 1, 0, none⟩) j j, .int .i64 (M : Int)]) (by simp [results, Try.results36, go_sem, r0, r1]) rfl ?_
      have HM2 : mostP ws m O j = M := HM.out
      refine ⟨w.heap.size + 1 + 1, by rw [HM2], ?_, by omega, ?_⟩
      · exact ((S.out.1.2.2.far (show ¬ w.heap.size + 1 + 1 = w.heap.size + 1 + 1 + 1 by omega)).far (show ¬ w.heap.size + 1 + 1 = w.heap.size by omega)).far (show ¬ w.heap.size + 1 + 1 = w.heap.size by omega)
      · exact ((S.out.1.1.setCell (p := ⟨w.heap.size + 1 + 1 + 1, 1, none⟩) (show w.heap.size ≤ w.heap.size + 1 + 1 + 1 by omega) _).setCell (p := ⟨w.heap.size, 0, none⟩) (Nat.le_refl _) _).setCell (p := ⟨w.heap.size, 1, none⟩) (Nat.le_refl _) _
/-- A plan and no error. -/
def PlanOk (W : World) (ws : Nat → Nat) (m n : Nat) (O : Nat → Nat) (e : Ending) (w' : World) : Prop :=
  ∃ B, e = .returned (.tuple #[.agg #[.slice (some ⟨B, 0, none⟩) n n, .int .i64 (mostP ws m O n : Nat)], .int .i64 0]) ∧ RowI w' B n (planP ws m O n).2 ∧ W.heap.size ≤ B ∧ Below W.heap.size W w'
/-- An error beside no plan. -/
def PlanBad (W : World) (e : Ending) (w' : World) : Prop :=
  e = .returned (.tuple #[.agg #[.slice none 0 0, .int .i64 0], .int .i64 2]) ∧ Below W.heap.size W w'
set_option maxHeartbeats 1000000 in
theorem list_bad {ad : Option Addr} {cap n : Nat} {f : Nat → Int} (C : Int) (w : World) (HA : Hid (IntAt w ad cap n f)) (hn : n ≤ 9223372036854775807) (hq : Hid (wrongV f n C = 2)) :
    Calls Try.prog 33 #[.slice ad n cap, .int .i64 C] w (PlanBad w) := by
  have HA1 := Lib.hid (HA.out.step ((Below.refl w.heap.size w).alloc (Nat.le_refl _) (.cells #[.slice none 0 0, .int .i64 0] 51)))
  go_enter Try.func33, Try.ntmps33
  go_wp2_with (first
    | (go_at_call 35; (with_reducible refine (wrong_R C _ HA1 hn 2 hq).mono ?_); rintro e w1 ⟨rfl, rfl⟩)
    | fail)
  exact bodyPost_ret (v := .tuple #[.agg #[.slice none 0 0, .int .i64 0], .int .i64 2]) (by simp [results, Try.results33, go_sem]) rfl ⟨rfl, (Below.refl _ _).alloc (Nat.le_refl _) _⟩
set_option maxHeartbeats 1000000 in
theorem list_ok {ad : Option Addr} {cap n m : Nat} {ws : Nat → Nat} (w : World) (HA : Hid (IntAt w ad cap n (fun i => (ws i : Int)))) (hn : n ≤ 400) (hm : 0 < m) (hm8 : m ≤ 8) (hw : Hid (∀ i, i < n → ws i ≤ 1073741824)) (hq : Hid (wrongV (fun i => (ws i : Int)) n m = 0)) :
    Calls Try.prog 33 #[.slice ad n cap, .int .i64 (m : Int)] w (PlanOk w ws m n (fun i => i)) := by
  have HA1 := Lib.hid (HA.out.step ((Below.refl w.heap.size w).alloc (Nat.le_refl _) (.cells #[.slice none 0 0, .int .i64 0] 51)))
  have HID : Hid (∀ j, j < n → (fun i : Nat => i) j < n) := Lib.hid fun _ h => h
  go_enter Try.func33, Try.ntmps33
  go_wp2_with (first
    | (go_at_call 35; (with_reducible refine (wrong_R (m : Int) _ HA1 (by omega) 0 hq).mono ?_); rintro e w1 ⟨rfl, rfl⟩)
    | (go_at_call 43; (with_reducible refine (given_R hn _).mono ?_); rintro e w1 ⟨B, rfl, hr, hB, hb⟩; have HR := Lib.hid (hr.at n); have HA2 := Lib.hid (HA1.out.step hb); have G1 := bat hb w.heap.size (by simp); have Z1 := lt_of_alloc hb; have HB1 := Lib.hid (((Below.refl w.heap.size w).alloc (Nat.le_refl _) (.cells #[.slice none 0 0, .int .i64 0] 51)).trans (hb.mono (by simp))); clear hr hB hb)
    | fail)
  go_at_call 36
  (with_reducible refine (assign_R (O := fun i => i) hn hm hm8 _ HA2 HR hw HID).mono ?_)
  rintro e w2 ⟨B2, rfl, hr, hB, hb⟩
  have HR2 := Lib.hid hr
  have HBB := Lib.hid hB
  have G2 := bat hb w.heap.size Z1
  have HB2 := Lib.hid (HB1.out.trans (hb.mono HB1.out.size))
  clear hr hB hb
  go_wp2_with fail
  refine bodyPost_ret (v := .tuple #[.agg #[.slice (some ⟨B2, 0, none⟩) n n, .int .i64 (mostP ws m (fun i => i) n : Nat)], .int .i64 0]) (by simp [results, Try.results33, go_sem, G1, G2]) rfl ?_
  have h1 := HB1.out.size
  have h2 := HBB.out
  have h3 : ¬ B2 = w.heap.size := by omega
  exact ⟨B2, rfl, (HR2.out.far h3).far h3, by omega, (HB2.out.setCell (p := ⟨w.heap.size, 0, none⟩) (Nat.le_refl _) _).setCell (p := ⟨w.heap.size, 1, none⟩) (Nat.le_refl _) _⟩
end Go.Proofs.Ytmldedkmmhnihaa
