/- Package ring, in plain terms: what is right, told by cells; how far one index lies behind another. No program in sight. -/
import Derived.Test.YtipkmmajhhcadaaRingP
namespace Go.Proofs.Ytipkmmajhhcadaa

/-- How far b lies behind a, round the end. -/
def dsR (n a b : Nat) : Nat := if a ≤ b then b - a else b + n - a
theorem ds_lt {n a b : Nat} (ha : a < n) (hb : b < n) : dsR n a b < n := by
  unfold dsR
  split <;> omega
theorem wr_ds {n a b : Nat} (ha : a < n) (hb : b < n) : wrR n (a + dsR n a b) = b := by
  unfold dsR wrR
  split <;> split <;> omega
theorem ds_wr {n a k : Nat} (ha : a < n) (hk : k < n) : dsR n a (wrR n (a + k)) = k := by
  unfold dsR wrR
  split <;> split <;> omega
theorem ds_self (n a : Nat) : dsR n a a = 0 := by
  unfold dsR
  rw [if_pos (Nat.le_refl _)]
  omega
theorem ds_zero {n a b : Nat} (ha : a < n) (h : dsR n a b = 0) : a = b := by
  unfold dsR at h
  split at h <;> omega
/-- Work is Give, or in the range from Take up to Give. -/
theorem ds_add {n t w g : Nat} (ht : t < n) (hw : w < n) (hg : g < n) : dsR n t w ≤ dsR n t g ↔ dsR n t w + dsR n w g < n := by
  unfold dsR
  by_cases h1 : t ≤ w <;> by_cases h2 : t ≤ g <;> by_cases h3 : w ≤ g <;> simp only [h1, h2, h3, if_true, if_false] <;> omega
theorem ds_sum {n t w g : Nat} (ht : t < n) (hw : w < n) (hg : g < n) (h : dsR n t w ≤ dsR n t g) : dsR n t w + dsR n w g = dsR n t g := by
  unfold dsR at h ⊢
  by_cases h1 : t ≤ w <;> by_cases h2 : t ≤ g <;> by_cases h3 : w ≤ g <;> simp only [h1, h2, h3, if_true, if_false] at h ⊢ <;> omega
/-- As the document says it: Work is Give or an index in the range from Take up to Give (none, where the two are equal). -/
theorem range_iff {n t w g : Nat} (ht : t < n) (hw : w < n) (hg : g < n) : (w = g ∨ dsR n t w < dsR n t g) ↔ dsR n t w ≤ dsR n t g := by
  constructor
  · rintro (rfl | h)
    · exact Nat.le_refl _
    · omega
  · intro h
    by_cases e : w = g
    · exact Or.inl e
    · refine Or.inr (Nat.lt_of_le_of_ne h fun q => e ?_)
      have h1 := wr_ds ht hw
      have h2 := wr_ds ht hg
      rw [q, h2] at h1
      exact h1.symm
/-- The cell k behind Take, as it should be: p worked at, q the device's. -/
def okC (p q k : Nat) (c : CeR) : Bool := if k < p then !c.1 else if k < p + q then c.1 else !c.1 && decide (c.2 = 0)
def rgtR (n : Nat) (cs : List CeR) (give take work : Int) : Bool :=
  decide (2 ≤ n ∧ n ≤ 64 ∧ (0 ≤ give ∧ give < n) ∧ (0 ≤ take ∧ take < n) ∧ (0 ≤ work ∧ work < n) ∧ dsR n take.toNat work.toNat ≤ dsR n take.toNat give.toNat ∧
    ∀ k, k < n → okC (dsR n take.toNat work.toNat) (dsR n work.toNat give.toNat) k (cs[wrR n (take.toNat + k)]?.getD (false, 0)) = true)
/-- What the cells hold, from so far behind Take on. -/
def dataR (n : Nat) (cs : List CeR) (take a m : Nat) : List Int := (List.range m).map fun i => (cs[wrR n (take + (a + i))]?.getD (false, 0)).2
theorem data_len (n : Nat) (cs : List CeR) (take a m : Nat) : (dataR n cs take a m).length = m := by simp [dataR]
theorem data_at {n : Nat} {cs : List CeR} {take a m i : Nat} (h : i < m) : (dataR n cs take a m)[i]? = some (cs[wrR n (take + (a + i))]?.getD (false, 0)).2 := by
  unfold dataR
  rw [List.getElem?_map, List.getElem?_range h]
  rfl
/-- What is right is two queues in the ring. -/
theorem rgt_ring {n : Nat} {cs : List CeR} {give take work : Nat} (hn : 2 ≤ n) (hl : cs.length = n) (hg : give < n) (ht : take < n) (hw : work < n) (hr : dsR n take work ≤ dsR n take give)
    (hc : ∀ k, k < n → okC (dsR n take work) (dsR n work give) k (cs[wrR n (take + k)]?.getD (false, 0)) = true) :
    RgR n cs give take work (dataR n cs take 0 (dsR n take work)) (dataR n cs take (dsR n take work) (dsR n work give)) := by
  have hs := ds_sum ht hw hg hr
  have hlt := ds_lt ht hg
  refine ⟨hn, hl, by rw [data_len, data_len]; omega, ht, by rw [data_len, wr_ds ht hw], by rw [data_len, data_len, Nat.add_assoc, hs, wr_ds ht hg], fun k hk => ?_⟩
  have h := hc k hk
  have hk2 : wrR n (take + k) < cs.length := by rw [hl]; exact wr_lt' ht hk
  obtain ⟨c, hcc⟩ : ∃ c, cs[wrR n (take + k)]? = some c := ⟨_, List.getElem?_eq_getElem hk2⟩
  rw [seq_at n _ _ hk, data_len, data_len, hcc]
  rw [hcc, Option.getD_some] at h
  obtain ⟨dv, x⟩ := c
  unfold okC at h
  by_cases h1 : k < dsR n take work
  · rw [if_pos h1] at h ⊢
    rw [data_at h1, Nat.zero_add, hcc]
    simp only [Bool.not_eq_true', Option.map_some, Option.getD_some] at h ⊢
    rw [h]
  · rw [if_neg h1] at h ⊢
    by_cases h2 : k < dsR n take work + dsR n work give
    · rw [if_pos h2] at h ⊢
      have e : dsR n take work + (k - dsR n take work) = k := by omega
      rw [data_at (by omega), e, hcc]
      simp only [Option.map_some, Option.getD_some] at h ⊢
      rw [h]
    · rw [if_neg h2] at h ⊢
      simp only [Bool.and_eq_true, Bool.not_eq_true', decide_eq_true_eq] at h
      rw [h.1, h.2]
/-- And two queues in the ring are right. -/
theorem ring_rgt {n : Nat} {cs : List CeR} {give take work : Nat} {wk gv : List Int} (h : RgR n cs give take work wk gv) : give < n ∧ work < n ∧ dsR n take work = wk.length ∧ dsR n work give = gv.length ∧ dsR n take work ≤ dsR n take give ∧
    ∀ k, k < n → okC (dsR n take work) (dsR n work give) k (cs[wrR n (take + k)]?.getD (false, 0)) = true := by
  have hm := h.tk
  have hr := h.room
  have hn := h.n2
  have hw : work < n := by rw [h.wo]; exact wr_lt' hm (by omega)
  have hg : give < n := by rw [h.gi, Nat.add_assoc]; exact wr_lt' hm (by omega)
  have e1 : dsR n take work = wk.length := by rw [h.wo, ds_wr hm (by omega)]
  have e2 : dsR n take give = wk.length + gv.length := by rw [h.gi, Nat.add_assoc, ds_wr hm (by omega)]
  have hle : dsR n take work ≤ dsR n take give := by omega
  have e3 : dsR n work give = gv.length := by have := ds_sum hm hw hg hle; omega
  refine ⟨hg, hw, e1, e3, hle, fun k hk => ?_⟩
  rw [e1, e3, h.cell k hk, seq_at n _ _ hk]
  unfold okC
  by_cases h1 : k < wk.length
  · rw [if_pos h1, if_pos h1, List.getElem?_eq_getElem h1]
    rfl
  · rw [if_neg h1, if_neg h1]
    by_cases h2 : k < wk.length + gv.length
    · rw [if_pos h2, if_pos h2, List.getElem?_eq_getElem (show k - wk.length < gv.length by omega)]
      rfl
    · rw [if_neg h2, if_neg h2]
      rfl
theorem rgt_iff {n : Nat} {cs : List CeR} {give take work : Int} (hl : cs.length = n) : rgtR n cs give take work = true ↔ n ≤ 64 ∧ 0 ≤ give ∧ 0 ≤ take ∧ 0 ≤ work ∧ ∃ wk gv, RgR n cs give.toNat take.toNat work.toNat wk gv := by
  unfold rgtR
  rw [decide_eq_true_iff]
  constructor
  · rintro ⟨h1, h2, ⟨g0, g1⟩, ⟨t0, t1⟩, ⟨w0, w1⟩, hr, hc⟩
    exact ⟨h2, g0, t0, w0, _, _, rgt_ring h1 hl (by omega) (by omega) (by omega) hr hc⟩
  · rintro ⟨h2, g0, t0, w0, wk, gv, h⟩
    obtain ⟨hg, hw, _, _, hle, hc⟩ := ring_rgt h
    have ht := h.tk
    exact ⟨h.n2, h2, ⟨g0, by omega⟩, ⟨t0, by omega⟩, ⟨w0, by omega⟩, hle, hc⟩
/-- The three errors, by the queues' lengths. -/
theorem full_iff {n : Nat} {cs : List CeR} {give take work : Nat} {wk gv : List Int} (h : RgR n cs give take work wk gv) : dsR n take give + 1 = n ↔ wk.length + gv.length + 1 = n := by
  have hm := h.tk
  have hr := h.room
  rw [h.gi, Nat.add_assoc, ds_wr hm (by omega)]
theorem none_work {n : Nat} {cs : List CeR} {give take work : Nat} {wk gv : List Int} (h : RgR n cs give take work wk gv) : work = give ↔ gv = [] := by
  obtain ⟨hg, hw, _, e, _, _⟩ := ring_rgt h
  constructor
  · rintro rfl
    rw [ds_self] at e
    exact List.eq_nil_of_length_eq_zero e.symm
  · rintro rfl
    exact ds_zero hw e
theorem none_take {n : Nat} {cs : List CeR} {give take work : Nat} {wk gv : List Int} (h : RgR n cs give take work wk gv) : take = work ↔ wk = [] := by
  obtain ⟨_, hw, e, _, _, _⟩ := ring_rgt h
  constructor
  · rintro rfl
    rw [ds_self] at e
    exact List.eq_nil_of_length_eq_zero e.symm
  · rintro rfl
    exact ds_zero h.tk e
end Go.Proofs.Ytipkmmajhhcadaa
