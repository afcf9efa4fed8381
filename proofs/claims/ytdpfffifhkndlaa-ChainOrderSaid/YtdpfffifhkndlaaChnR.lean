/- Package chain: slices.Reverse of handlers. -/
import Derived.Test.YtdpfffifhkndlaaChnH
import Derived.RegionTactic
namespace Go.Proofs.Ytdpfffifhkndlaa
open Go.RowKit

/-- A handler of a list, by its number. -/
def fnH (l : List HdT) (i : Nat) : HdT := l.getD i ⟨0, 0⟩
theorem fnH_get {l : List HdT} {i : Nat} (h : i < l.length) : l[i]? = some (fnH l i) := by simp [fnH, h]
/-- The first i and the last i are changed for each other. -/
def revL (l : List HdT) (i : Nat) : List HdT := (List.range l.length).map fun j => if j < i ∨ l.length ≤ i + j then fnH l (l.length - 1 - j) else fnH l j
theorem revL_len (l : List HdT) (i : Nat) : (revL l i).length = l.length := by simp [revL]
theorem revL_get {l : List HdT} {i j : Nat} (h : j < l.length) : (revL l i)[j]? = some (if j < i ∨ l.length ≤ i + j then fnH l (l.length - 1 - j) else fnH l j) := by simp [revL, h]
theorem ext_lt {l m : List HdT} (h : l.length = m.length) (he : ∀ j, j < l.length → l[j]? = m[j]?) : l = m := by
  refine List.ext_getElem? fun j => ?_
  by_cases hj : j < l.length
  · exact he j hj
  · rw [List.getElem?_eq_none (by omega), List.getElem?_eq_none (by omega)]
theorem revL_zero (l : List HdT) : revL l 0 = l := by
  refine ext_lt (revL_len l 0) fun j hj => ?_
  rw [revL_len] at hj
  rw [revL_get hj, if_neg (by omega), fnH_get hj]
theorem revL_last {l : List HdT} {i : Nat} (h : l.length ≤ 2 * i + 1) : revL l i = l.reverse := by
  refine ext_lt (by rw [revL_len, List.length_reverse]) fun j hj => ?_
  rw [revL_len] at hj
  rw [revL_get hj, List.getElem?_reverse hj, fnH_get (show l.length - 1 - j < l.length by omega)]
  congr 1
  by_cases g : j < i ∨ l.length ≤ i + j
  · rw [if_pos g]
  · rw [if_neg g]
    congr 1
    omega
theorem revL_swap {l : List HdT} {i j : Nat} (hij : i < j) (hj : i + j + 1 = l.length) : ((revL l i).set i (fnH l j)).set j (fnH l i) = revL l (i + 1) := by
  refine ext_lt (by simp [revL_len]) fun t ht => ?_
  simp only [List.length_set, revL_len] at ht
  rw [revL_get ht, List.getElem?_set, List.getElem?_set, List.length_set, revL_len, revL_get ht]
  by_cases g1 : j = t
  · subst g1
    rw [if_pos rfl, if_pos ht, if_pos (by omega)]
    congr 2; omega
  · rw [if_neg g1]
    by_cases g2 : i = t
    · subst g2
      rw [if_pos rfl, if_pos ht, if_pos (by omega)]
      congr 2; omega
    · rw [if_neg g2]
      by_cases g3 : t < i ∨ l.length ≤ i + t
      · rw [if_pos g3, if_pos (by omega)]
      · rw [if_neg g3, if_neg (by omega)]
theorem revL_swap2 {l : List HdT} {i j : Nat} (hij : i < j) (hj : i + j + 1 = l.length) : ((revL l i).set j (fnH l i)).set i (fnH l j) = revL l (i + 1) := by
  rw [List.set_comm _ _ (by omega)]
  exact revL_swap hij hj
/-- A whole handler is stored. -/
theorem RowH.putH {w : World} {B : Nat} {l : List HdT} (r : RowH w B l) {j : Nat} (hj : j < l.length) (x y : Int) : RowH ((w.setCell ⟨B, j * 2, none⟩ (.int .i64 x)).setCell ⟨B, j * 2 + 1, none⟩ (.int .i64 y)) B (l.set j ⟨x, y⟩) := by
  have h0 := fnH_get hj
  have h1 := r.put0 h0 x
  have h2 : (l.set j ⟨x, (fnH l j).left⟩)[j]? = some ⟨x, (fnH l j).left⟩ := by rw [List.getElem?_set, if_pos rfl, if_pos hj]
  have h3 := h1.put1 h2 y
  rw [List.set_set] at h3
  exact h3
set_option maxHeartbeats 2000000 in
set_option maxRecDepth 100000 in
theorem reverse_H {W : World} {ad : Option Addr} {cap n : Nat} {l : List HdT} (w : World) (HB : Hid (Below W.heap.size W w)) (HA : Hid (OwnH W.heap.size w ad cap l)) (hm : Hid (l.length = n)) (hn : n ≤ 8796093022208) :
    Calls Try.prog 20 #[.slice ad n cap] w fun e w' => e = .returned (.tuple #[]) ∧ OwnH W.heap.size w' ad cap l.reverse ∧ Below W.heap.size W w' := by
  rcases HA.out with ⟨rfl, rfl, rfl⟩ | ⟨B, rfl, hB, hr⟩
  · obtain rfl : n = 0 := hm.out.symm
    go_enter Try.func20, Try.ntmps20
    go_wp2_with fail
    go_loopw [2, 3] (fun x y wr => x = .int .i64 0 ∧ y = .int .i64 (-1) ∧ w = wr) (fun _ _ _ => 0)
    case atStart => exact ⟨rfl, by go_num, rfl⟩
    case round =>
      obtain ⟨rfl, rfl, rfl⟩ := hrel
      go_wp2_with fail
      go_end0
      exact ⟨rfl, Or.inl ⟨rfl, rfl, rfl⟩, HB.out⟩
  · have HR := Lib.hid hr
    clear hr HA
    go_enter Try.func20, Try.ntmps20
    go_wp2_with fail
    go_loopw [2, 3] (fun x y wr => ∃ i : Nat, i ≤ n ∧ x = .int .i64 i ∧ y = .int .i64 ((n : Int) - 1 - i) ∧ Hid (RowH wr B (revL l i)) ∧ Hid (Below W.heap.size W wr)) (fun x _ _ => n - (intOf x).toNat)
    case atStart => exact ⟨0, Nat.zero_le _, rfl, by go_num, Lib.hid (by rw [revL_zero]; exact HR.out), HB⟩
    case round =>
      obtain ⟨i, hi, rfl, rfl, R, BB⟩ := hrel
      by_cases hlt : 2 * i + 1 < n
      · obtain ⟨j, hj⟩ : ∃ j, n - 1 - i = j := ⟨_, rfl⟩
        have ej : (n : Int) - 1 - (i : Int) = (j : Int) := by omega
        rw [ej]
        have hin : i < n := by omega
        have hjn : j < n := by omega
        have hil : i < l.length := by rw [hm.out]; exact hin
        have hjl : j < l.length := by rw [hm.out]; exact hjn
        have hij : i < j := by omega
        have hsum : i + j + 1 = l.length := by rw [hm.out]; omega
        have gi := revL_get (i := i) hil
        have gj := revL_get (i := i) hjl
        rw [if_neg (by omega)] at gi gj
        have ci := R.out.cells gi
        have cj := R.out.cells gj
        have fi := fun t => R.out.frozen t
        have S1 := Lib.hid (revL_swap hij hsum)
        have S2 := Lib.hid (revL_swap2 hij hsum)
        have hlr : (revL l i).length = l.length := revL_len l i
        obtain ⟨p, hp⟩ : ∃ p, fnH l i = p := ⟨_, rfl⟩
        obtain ⟨q, hq⟩ : ∃ q, fnH l j = q := ⟨_, rfl⟩
        rw [hp] at ci S1 S2
        rw [hq] at cj S1 S2
        obtain ⟨p0, p1⟩ := p
        obtain ⟨q0, q1⟩ := q
        simp only at ci cj
        have hne : ¬ i = j := by omega
        have hne2 : ¬ j = i := by omega
        have R1 := Lib.hid ((R.out.putH (j := i) (by rw [hlr]; exact hil) q0 q1).putH (j := j) (by rw [List.length_set, hlr]; exact hjl) p0 p1)
        have R2 := Lib.hid ((R.out.putH (j := j) (by rw [hlr]; exact hjl) p0 p1).putH (j := i) (by rw [List.length_set, hlr]; exact hil) q0 q1)
        rw [S1.out] at R1
        rw [S2.out] at R2
        have K1 := Lib.hid ((((BB.out.setCell (p := ⟨B, i * 2, none⟩) hB (.int .i64 q0)).setCell (p := ⟨B, i * 2 + 1, none⟩) hB (.int .i64 q1)).setCell (p := ⟨B, j * 2, none⟩) hB (.int .i64 p0)).setCell (p := ⟨B, j * 2 + 1, none⟩) hB (.int .i64 p1))
        have K2 := Lib.hid ((((BB.out.setCell (p := ⟨B, j * 2, none⟩) hB (.int .i64 p0)).setCell (p := ⟨B, j * 2 + 1, none⟩) hB (.int .i64 p1)).setCell (p := ⟨B, i * 2, none⟩) hB (.int .i64 q0)).setCell (p := ⟨B, i * 2 + 1, none⟩) hB (.int .i64 q1))
        clear gi gj hp hq S1 S2
        go_wp2_with fail
        go_region
        all_goals go_wp2_with fail
        all_goals go_roundw
        all_goals first
          | exact ⟨i + 1, by omega, by go_num, by go_num, Lib.hid R1.out, Lib.hid K1.out.drew⟩
          | exact ⟨i + 1, by omega, by go_num, by go_num, Lib.hid R2.out, Lib.hid K2.out.drew⟩
          | (simp [intOf]; omega)
      · have HRV : Hid (revL l i = l.reverse) := Lib.hid (revL_last (by rw [hm.out]; omega))
        have t1 : ¬ (i : Int) < (n : Int) - 1 - (i : Int) := by omega
        go_wp2_with fail
        go_end0
        exact ⟨rfl, Or.inr ⟨B, rfl, hB, by rw [← HRV.out]; exact R.out⟩, BB.out⟩
end Go.Proofs.Ytdpfffifhkndlaa
