/- Facts for SoftAll: how often a number was raised and has run; slices.Contains on rows of numbers. -/
import Derived.Test.YtnaplbkigebdiaaSofG
import Derived.Test.YtnaplbkigebdiaaFind
import Derived.Test.YtnaplbkigebdiaaSWho
namespace Go.Proofs.Ytnaplbkigebdiaa
open Go.RowKit

/-- How often s was raised, by the first j raises, up to L runs. -/
def cntA (pd : List Int) (rs : List RaT) (L s j : Nat) : Nat := b2n (pendJ pd s) + (rs.take j).countP fun r : RaT => decide (r.soft = (s : Int) ∧ r.at_ ≤ (L : Int))
theorem cntA_zero (pd : List Int) (rs : List RaT) (L s : Nat) : cntA pd rs L s 0 = b2n (pendJ pd s) := by simp [cntA]
theorem cntA_yes {pd : List Int} {rs : List RaT} {L s j : Nat} {r : RaT} (hr : rs[j]? = some r) (h : r.soft = (s : Int) ∧ r.at_ ≤ (L : Int)) : cntA pd rs L s (j + 1) = cntA pd rs L s j + 1 := by
  unfold cntA
  rw [List.take_add_one, hr, List.countP_append]
  simp [h]
  omega
theorem cntA_no {pd : List Int} {rs : List RaT} {L s j : Nat} {r : RaT} (hr : rs[j]? = some r) (h : ¬ (r.soft = (s : Int) ∧ r.at_ ≤ (L : Int))) : cntA pd rs L s (j + 1) = cntA pd rs L s j := by
  unfold cntA
  rw [List.take_add_one, hr, List.countP_append]
  simp
  omega
theorem cntA_le (pd : List Int) {rs : List RaT} (h : rs.length ≤ 400) (L s j : Nat) : cntA pd rs L s j ≤ 401 := by
  unfold cntA
  have h1 : b2n (pendJ pd s) ≤ 1 := by cases pendJ pd s <;> decide
  have h2 : (rs.take j).countP (fun r : RaT => decide (r.soft = (s : Int) ∧ r.at_ ≤ (L : Int))) ≤ (rs.take j).length := List.countP_le_length
  have h3 : (rs.take j).length ≤ rs.length := by rw [List.length_take]; omega
  omega
theorem cntA_all {pd : List Int} {rs : List RaT} (h : RtJ pd rs) {s : Nat} : (runJ pd rs).count s ≤ cntA pd rs (runJ pd rs).length s rs.length := by
  have h1 := cnt_rds (R := rJ rs) (pend := pendJ pd) (raise_in8 h) 409 s
  have h2 := rsd_le rs s (runJ pd rs).length
  have e : (rdsJ (rJ rs) (startJ (rJ rs) (pendJ pd)) 409).ran = runJ pd rs := rfl
  rw [e] at h1
  unfold cntA
  rw [List.take_length]
  have h3 : (rs.countP fun r : RaT => decide (r.soft = (s : Int) ∧ 0 ≤ r.at_ ∧ r.at_ ≤ ((runJ pd rs).length : Int))) ≤ rs.countP fun r : RaT => decide (r.soft = (s : Int) ∧ r.at_ ≤ ((runJ pd rs).length : Int)) := by
    refine List.countP_mono_left fun r _ hr => ?_
    have := of_decide_eq_true hr
    exact decide_eq_true ⟨this.1, this.2.2⟩
  omega
def cntL (l : List Nat) (s i : Nat) : Nat := (l.take i).count s
theorem cntL_yes {l : List Nat} {s i : Nat} (h : l[i]? = some s) : cntL l s (i + 1) = cntL l s i + 1 := by
  unfold cntL
  rw [List.take_add_one, h, List.count_append]
  simp
theorem cntL_no {l : List Nat} {s i x : Nat} (h : l[i]? = some x) (hx : ¬ x = s) : cntL l s (i + 1) = cntL l s i := by
  unfold cntL
  rw [List.take_add_one, h, List.count_append]
  simp [hx]
theorem cntL_le (l : List Nat) (s i : Nat) : cntL l s i ≤ l.count s := by
  unfold cntL
  exact (List.take_sublist i l).count_le s
theorem natL_get {l : List Nat} {i x : Nat} (h : l[i]? = some x) : (natL l)[i]? = some (x : Int) := by
  unfold natL; rw [List.getElem?_map, h]; rfl
theorem natL_mem {l : List Nat} {s : Nat} : (s : Int) ∈ natL l ↔ s ∈ l := by
  unfold natL
  rw [List.mem_map]
  constructor
  · rintro ⟨x, hx, e⟩
    obtain rfl : x = s := by omega
    exact hx
  · exact fun h => ⟨s, h, rfl⟩
theorem natL_drop (l : List Nat) (k : Nat) : natL (l.drop k) = (natL l).drop k := by unfold natL; rw [List.map_drop]
theorem natL_take (l : List Nat) (k : Nat) : natL (l.take k) = (natL l).take k := by unfold natL; rw [List.map_take]
theorem fnL_mem {l : List Int} {n : Nat} (hn : l.length = n) {v : Int} : (∃ i, i < n ∧ fnL l i = v) ↔ v ∈ l := by
  subst hn
  constructor
  · rintro ⟨i, hi, rfl⟩
    exact List.mem_of_getElem? (fnL_get hi)
  · intro h
    obtain ⟨i, hi⟩ := List.mem_iff_getElem?.1 h
    have hlt := (List.getElem?_eq_some_iff.1 hi).1
    refine ⟨i, hlt, ?_⟩
    rw [fnL_get hlt] at hi
    exact Option.some.inj hi
theorem contains_L {ad : Option Addr} {cap n : Nat} {l : List Int} (v : Int) (w : World) (HA : Hid (shI.At w ad cap l)) (hl : Hid (l.length = n)) (hn : n ≤ 9223372036854775807) (q : Bool) (hq : Hid (decide (v ∈ l) = q)) :
    Calls Try.prog 14 #[.slice ad n cap, .int .i64 v] w fun e w' => e = .returned (.bool q) ∧ w = w' :=
  contains_N v w (Lib.hid (IntAt.of HA.out hl.out)) hn q (Lib.hid (by rw [← hq.out, decide_eq_true_iff, fnL_mem hl.out]))
/-- A row of numbers without its first ones. -/
theorem at_dropI {w : World} {b off cap : Nat} {l : List Int} (h : shI.At w (some ⟨b, off, none⟩) cap l) (k c' : Nat) : shI.At w (some ⟨b, off + k, none⟩) c' (l.drop k) :=
  ⟨fun e => (by cases e), fun h0 => by
    rw [List.length_drop] at h0
    obtain ⟨b', off', e, hb, hl⟩ := h.2 (by omega)
    cases e
    refine ⟨b, off + k, rfl, hb, fun j hj => ?_⟩
    have hs : shI.size = 1 := rfl
    rw [hs, Nat.mul_one, List.length_drop] at hj
    have hj1 : k + j < l.length := by omega
    have h1 := hl (k + j) (by rw [hs]; omega)
    rw [Nat.add_assoc, h1]
    have f1 := shI.flat_at l (k + j) 0 _ (List.getElem?_eq_getElem hj1) (by decide)
    have f2 := shI.flat_at (l.drop k) j 0 (l[k + j]) (by rw [List.getElem?_drop]; exact List.getElem?_eq_getElem hj1) (by decide)
    rw [hs, Nat.mul_one, Nat.add_zero] at f1 f2
    rw [f1, f2]⟩
theorem at_addrI {w : World} {ad : Option Addr} {cap : Nat} {l : List Int} (h : shI.At w ad cap l) (h0 : 0 < l.length) : ∃ b off, ad = some ⟨b, off, none⟩ := by
  obtain ⟨b, off, e, _⟩ := h.2 h0
  exact ⟨b, off, e⟩
/-- All that was raised has run, behind its raise. -/
theorem run_due {pd : List Int} {rs : List RaT} (h : RtJ pd rs) : (∀ s, s < 8 → pendJ pd s = true → s ∈ runJ pd rs) ∧ ∀ (j s : Nat), s < 8 → 0 < j → j ≤ (runJ pd rs).length → rJ rs j s = true → s ∈ (runJ pd rs).drop j :=
  due_end (rd_end h)
end Go.Proofs.Ytnaplbkigebdiaa
