/- Package ring, in plain terms: what corebellref.RPlay lays at its end is the ring as it stands. No program in sight. -/
import Derived.Test.YtipkmmajhhcadaaRingS
namespace Go.Proofs.Ytipkmmajhhcadaa

/-- The queues, and where Take stands, tell cells and indices. -/
theorem ring_uniq {n : Nat} {cs cs' : List CeR} {give give' take work work' : Nat} {wk gv : List Int} (h : RgR n cs give take work wk gv) (h' : RgR n cs' give' take work' wk gv) : cs = cs' ∧ give = give' ∧ work = work' := by
  refine ⟨List.ext_getElem? fun i => ?_, by rw [h.gi, h'.gi], by rw [h.wo, h'.wo]⟩
  by_cases hi : i < n
  · have hd := ds_lt h.tk hi
    have h1 := h.cell _ hd
    have h2 := h'.cell _ hd
    rw [wr_ds h.tk hi] at h1 h2
    rw [h1, h2]
  · rw [List.getElem?_eq_none (by rw [h.len]; omega), List.getElem?_eq_none (by rw [h'.len]; omega)]
/-- An empty ring, its indices anywhere. -/
theorem ring_empty {n t : Nat} (hn : 2 ≤ n) (ht : t < n) : RgR n (List.replicate n (false, 0)) t t t [] [] := by
  have e : wrR n t = t := by unfold wrR; rw [if_pos ht]
  refine ⟨hn, by simp, by simp; omega, ht, by simp [e], by simp [e], fun k hk => ?_⟩
  rw [seq_at n [] [] hk, if_neg (by simp), if_neg (by simp), List.getElem?_replicate, if_pos (wr_lt' ht hk)]
/-- One more that was worked at, where the device has none. -/
theorem ring_putw {n give take work : Nat} {cs : List CeR} {wk : List Int} (h : RgR n cs give take work wk []) (hr : wk.length + 1 < n) (d : Int) : RgR n (cs.set give (false, d)) (wrR n (give + 1)) take (wrR n (work + 1)) (wk ++ [d]) [] := by
  have e : work = give := (none_work h).2 rfl
  have h2 := ring_work (x := d) (ring_give h (by simpa using hr) 0)
  rw [e, List.set_set] at h2
  rw [e]
  exact h2
/-- Laid, one by one: what was worked at from Take on, then what is the device's. -/
theorem lay_work {n take : Nat} (ht : take < n) {wk : List Int} {cs : List CeR} {j : Nat} {d : Int} (hd : wk[j]? = some d) (hw : wk.length < n) (h : RgR n cs (wrR n (take + j)) take (wrR n (take + j)) (wk.take j) []) :
    RgR n (cs.set (wrR n (take + j)) (false, d)) (wrR n (take + (j + 1))) take (wrR n (take + (j + 1))) (wk.take (j + 1)) [] := by
  have hj := (List.getElem?_eq_some_iff.1 hd).1
  by_cases hl : j + 1 < n
  · have h1 := ring_putw h (by rw [List.length_take]; omega) d
    rw [wr_step ht hl] at h1
    rw [List.take_add_one, hd]
    exact h1
  · omega
theorem lay_give {n take : Nat} (ht : take < n) {wk gv : List Int} {cs : List CeR} {j : Nat} {d : Int} (hd : gv[j]? = some d) (hw : wk.length + gv.length < n) (h : RgR n cs (wrR n (take + wk.length + j)) take (wrR n (take + wk.length)) wk (gv.take j)) :
    RgR n (cs.set (wrR n (take + wk.length + j)) (true, d)) (wrR n (take + wk.length + (j + 1))) take (wrR n (take + wk.length)) wk (gv.take (j + 1)) := by
  have hj := (List.getElem?_eq_some_iff.1 hd).1
  have h1 := ring_give h (by rw [List.length_take]; omega) d
  rw [Nat.add_assoc take, wr_step ht (by omega)] at h1
  rw [List.take_add_one, hd, Nat.add_assoc take, Nat.add_assoc take]
  exact h1
/-- The indices, by numbers: how many were taken, how many given. -/
def IdxG (n : Nat) (r : RiR) (s : StG) : Prop := r.take = s.taken.length % n ∧ s.gives = s.taken.length + s.wk.length + s.gv.length
theorem idx_new (n : Nat) (r : RiR) (h : r.take = 0) : IdxG n r newG := ⟨by rw [h]; exact (Nat.zero_mod n).symm, rfl⟩
theorem mod_next {n a t : Nat} (h : t = a % n) (hn : 0 < n) : wrR n (t + 1) = (a + 1) % n := by
  have hl := Nat.mod_lt a hn
  rw [wr_mod (by omega), h, Nat.mod_add_mod]
theorem idx_step {n : Nat} {r : RiR} {s : StG} (h : r.Tells n s) (hi : IdxG n r s) (o : RoT) (he : errG n s o = 0) : IdxG n (doS n r o) (doG s o) := by
  obtain ⟨h1, h2⟩ := hi
  have hn := h.n2
  unfold errG at he
  unfold IdxG doS doG
  by_cases k0 : o.k < 1 ∨ 3 < o.k
  · rw [if_pos k0] at he; cases he
  · rw [if_neg k0] at he
    by_cases k1 : o.k = 1
    · rw [if_pos k1, if_pos k1]
      exact ⟨h1, by simp only [List.length_append, List.length_cons, List.length_nil]; omega⟩
    · rw [if_neg k1] at he ⊢
      rw [if_neg k1]
      by_cases k2 : o.k = 2
      · rw [if_pos k2] at he ⊢
        rw [if_pos k2]
        cases hg : s.gv with
        | nil => rw [if_pos hg] at he; cases he
        | cons d q =>
          rw [hg, List.length_cons] at h2
          exact ⟨h1, by simp only [List.head?_cons, Option.map_some, Option.toList_some, List.length_append, List.length_cons, List.length_nil, List.tail_cons]; omega⟩
      · rw [if_neg k2] at he ⊢
        rw [if_neg k2]
        cases hg : s.wk with
        | nil => rw [if_pos hg] at he; cases he
        | cons d q =>
          rw [hg, List.length_cons] at h2
          simp only [List.head?_cons, Option.toList_some, List.length_append, List.length_cons, List.length_nil, List.tail_cons]
          exact ⟨mod_next h1 (by omega), by omega⟩
/-- Give and Work by numbers. -/
theorem idx_out {n : Nat} {r : RiR} {s : StG} (h : r.Tells n s) (hi : IdxG n r s) : r.give = s.gives % n ∧ r.work = (s.gives - s.gv.length) % n := by
  obtain ⟨h1, h2⟩ := hi
  have hr := h.room
  have ht := h.tk
  refine ⟨?_, ?_⟩
  · rw [h.gi, Nat.add_assoc, wr_mod (by omega), h1, Nat.mod_add_mod, h2]
    congr 1
    omega
  · rw [h.wo, wr_mod (by omega), h1, Nat.mod_add_mod, h2]
    congr 1
    omega
end Go.Proofs.Ytipkmmajhhcadaa
