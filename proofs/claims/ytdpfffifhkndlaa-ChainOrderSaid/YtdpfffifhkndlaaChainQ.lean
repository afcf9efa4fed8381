/- More plain facts on shared lines: served in part, who woke so far. No program in sight. -/
import Derived.Test.YtdpfffifhkndlaaChainP
namespace Go.Proofs.Ytdpfffifhkndlaa

/-- The first i are served. -/
def mixI (l : List HdT) (i : Nat) : List HdT := (l.take i).map (decN 1) ++ l.drop i
theorem mix_zero (l : List HdT) : mixI l 0 = l := by simp [mixI]
theorem mix_all {l : List HdT} {n : Nat} (h : l.length = n) : mixI l n = l.map (decN 1) := by
  subst h
  simp [mixI]
theorem mix_get {l : List HdT} {i j : Nat} (hi : i ≤ l.length) : (mixI l i)[j]? = if j < i then l[j]?.map (decN 1) else l[j]? := by
  unfold mixI
  rw [List.getElem?_append]
  have hl : ((l.take i).map (decN 1)).length = i := by rw [List.length_map, List.length_take, Nat.min_eq_left hi]
  rw [hl]
  split
  · rename_i h
    rw [List.getElem?_map, List.getElem?_take_of_lt h]
  · rename_i h
    rw [List.getElem?_drop]
    congr 1
    omega
theorem mix_here {l : List HdT} {i : Nat} {f : HdT} (hf : l[i]? = some f) : (mixI l i)[i]? = some f := by
  rw [mix_get (Nat.le_of_lt (List.getElem?_eq_some_iff.1 hf).1), if_neg (Nat.lt_irrefl i), hf]
theorem mix_set {l : List HdT} {i : Nat} {f : HdT} (hf : l[i]? = some f) : (mixI l i).set i (decN 1 f) = mixI l (i + 1) := by
  have hl := (List.getElem?_eq_some_iff.1 hf).1
  refine List.ext_getElem? fun j => ?_
  have hml : (mixI l i).length = l.length := by simp [mixI]; omega
  rw [List.getElem?_set, mix_get (by omega), mix_get (by omega), hml]
  by_cases e : i = j
  · subst e
    rw [if_pos rfl, if_pos hl, if_pos (by omega), hf]; rfl
  · rw [if_neg e]
    by_cases g : j < i
    · rw [if_pos g, if_pos (by omega)]
    · rw [if_neg g, if_neg (by omega)]
theorem dec_none {f : HdT} (h : f.left = 0) : decN 1 f = f := by
  cases f with
  | mk s l =>
    simp only at h
    subst h
    rfl
theorem dec_one {f : HdT} (h : 0 < f.left) : decN 1 f = ⟨f.says, f.left - 1⟩ := by
  unfold decN
  simp only [HdT.mk.injEq, true_and]
  split <;> omega
theorem mix_same {l : List HdT} {i : Nat} {f : HdT} (hf : l[i]? = some f) (h : f.left = 0) : mixI l (i + 1) = mixI l i := by
  rw [← mix_set hf, dec_none h]
  refine List.ext_getElem? fun j => ?_
  rw [List.getElem?_set]
  by_cases e : i = j
  · subst e
    have := mix_here hf
    rw [if_pos rfl, if_pos (List.getElem?_eq_some_iff.1 this).1, this]
  · rw [if_neg e]
theorem wak_append (n : Nat) (m : List HdT) : ∀ (k : Nat) (l : List HdT), wakI n k (l ++ m) = wakI n k l ++ wakI n (k + l.length) m
  | k, [] => rfl
  | k, h :: l => by
    rw [List.cons_append, wakI, wakI, wak_append n m (k + 1) l, List.append_assoc, List.length_cons, show k + 1 + l.length = k + (l.length + 1) by omega]
theorem take_next {α : Type} {l : List α} {i : Nat} {f : α} (hf : l[i]? = some f) : l.take (i + 1) = l.take i ++ [f] := by
  rw [List.take_add_one, hf]; rfl
theorem take_len {α : Type} {l : List α} {i : Nat} {f : α} (hf : l[i]? = some f) : (l.take i).length = i := by
  rw [List.length_take, Nat.min_eq_left (Nat.le_of_lt (List.getElem?_eq_some_iff.1 hf).1)]
/-- One more, who wakes; one more, who doesn't. -/
theorem wak_yes {l : List HdT} {i n : Nat} {f : HdT} (hf : l[i]? = some f) (h : (n : Int) < f.left ∧ f.says = 2) : wakI n 0 (l.take (i + 1)) = wakI n 0 (l.take i) ++ [i] := by
  rw [take_next hf, wak_append, take_len hf, Nat.zero_add, wakI, if_pos h]; rfl
theorem wak_no {l : List HdT} {i n : Nat} {f : HdT} (hf : l[i]? = some f) (h : ¬ ((n : Int) < f.left ∧ f.says = 2)) : wakI n 0 (l.take (i + 1)) = wakI n 0 (l.take i) := by
  rw [take_next hf, wak_append, take_len hf, Nat.zero_add, wakI, if_neg h]; simp [wakI]
theorem most_next {l : List HdT} {i : Nat} {f : HdT} (hf : l[i]? = some f) : mostI (l.take (i + 1)) = max (mostI (l.take i)) f.left := by
  rw [take_next hf, most_append]
  have := most_nonneg (l.take i)
  simp only [mostI]; omega
theorem wak_le (n : Nat) (k : Nat) (l : List HdT) : (wakI n k l).length ≤ l.length := by
  rw [wak_len]; exact List.countP_le_length
/-- Who woke, as numbers. -/
def intL (l : List Nat) : List Int := l.map Int.ofNat
theorem intL_len (l : List Nat) : (intL l).length = l.length := by simp [intL]
theorem intL_app (l m : List Nat) : intL (l ++ m) = intL l ++ intL m := by simp [intL]
end Go.Proofs.Ytdpfffifhkndlaa
