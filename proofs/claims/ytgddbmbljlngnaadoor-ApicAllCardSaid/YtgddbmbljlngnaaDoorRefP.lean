/- Plain facts for corebellref's account of a controller: counting classes, the best that may. No program in sight. -/
import Derived.Test.YtgddbmbljlngnaaDoorLocQ
namespace Go.Proofs.YtgddbmbljlngnaaDoor

/-- How many of the first k are of class j. -/
def cnt (l : List Nat) (k j : Nat) : Nat := ((l.take k).filter (fun m => decide (m / 16 = j))).length
theorem cnt_zero (l : List Nat) (j : Nat) : cnt l 0 j = 0 := by simp [cnt]
theorem cnt_succ (l : List Nat) (k j : Nat) (hk : k < l.length) : cnt l (k + 1) j = cnt l k j + (if l.getD k 0 / 16 = j then 1 else 0) := by
  unfold cnt
  rw [List.take_add_one, List.filter_append, List.length_append, List.getElem?_eq_getElem hk, at_getD hk]
  by_cases h : l[k] / 16 = j
  · simp [h]
  · simp [h]
theorem cnt_le (l : List Nat) (k j : Nat) : cnt l k j ≤ k := by
  unfold cnt
  have h1 := List.length_filter_le (fun m => decide (m / 16 = j)) (l.take k)
  have h2 := List.length_take_le k l
  omega
def badC (c j : Nat) : Prop := 1 < c ∨ (j < 2 ∧ 0 < c)
theorem cnt_all (q : Nat → Bool) (j : Nat) : cnt (allOf q) (allOf q).length j = ((allOf q).filter (fun m => decide (m / 16 = j))).length := by
  unfold cnt
  rw [List.take_length]
theorem in_cls (q : Nat → Bool) (j m : Nat) : m ∈ (allOf q).filter (fun m => decide (m / 16 = j)) ↔ m < 256 ∧ q m = true ∧ m / 16 = j := by
  rw [List.mem_filter, at_mem]
  simp [and_assoc]
theorem bad_right {q : Nat → Bool} {j : Nat} (hb : badC (cnt (allOf q) (allOf q).length j) j) : (lowB q && diffB q) = false := by
  rw [← Bool.not_eq_true, Bool.and_eq_true, lowB_iff, diffB_iff]
  rintro ⟨h1, h2⟩
  rw [cnt_all] at hb
  have hs : ((allOf q).filter (fun m => decide (m / 16 = j))).Pairwise (· < ·) := (at_sorted q).filter _
  have hm : ∀ m, m ∈ (allOf q).filter (fun m => decide (m / 16 = j)) → m < 256 ∧ q m = true ∧ m / 16 = j := fun m => (in_cls q j m).1
  generalize (allOf q).filter (fun m => decide (m / 16 = j)) = F at hb hs hm
  match F, hb, hs, hm with
  | [], hb, _, _ => simp [badC] at hb
  | [x], hb, _, hm =>
    obtain ⟨_, hq, he⟩ := hm x (by simp)
    simp [badC] at hb
    rw [h1 x (by omega)] at hq
    cases hq
  | x :: y :: r, _, hs, hm =>
    obtain ⟨hx, hqx, hex⟩ := hm x (by simp)
    obtain ⟨hy, hqy, hey⟩ := hm y (by simp)
    have := h2 x y hx hy hqx hqy (by omega)
    have hlt : x < y := by
      rw [List.pairwise_cons] at hs
      exact hs.1 y (by simp)
    omega
theorem nobad_right {q : Nat → Bool} (h : ∀ j, j < 16 → ¬ badC (cnt (allOf q) (allOf q).length j) j) : (lowB q && diffB q) = true := by
  rw [Bool.and_eq_true, lowB_iff, diffB_iff]
  constructor
  · intro m hm
    cases hq : q m
    · rfl
    · exfalso
      apply h (m / 16) (by omega)
      rw [cnt_all]
      right
      exact ⟨by omega, List.length_pos_of_mem ((in_cls q (m / 16) m).2 ⟨by omega, hq, rfl⟩)⟩
  · intro m n hm hn hqm hqn he
    have hF := h (m / 16) (by omega)
    rw [cnt_all] at hF
    have i1 := (in_cls q (m / 16) m).2 ⟨hm, hqm, rfl⟩
    have i2 := (in_cls q (m / 16) n).2 ⟨hn, hqn, he.symm⟩
    generalize (allOf q).filter (fun k => decide (k / 16 = m / 16)) = F at hF i1 i2
    match F, hF, i1, i2 with
    | [], _, i1, _ => simp at i1
    | [x], _, i1, i2 =>
      simp at i1 i2
      omega
    | x :: y :: r, hF, _, _ => simp [badC] at hF

/-- May n be delivered? -/
def okB (q : Nat → Bool) (c : Int) (n : Nat) : Bool := decide (c < ((n / 16 : Nat) : Int)) && (allOf q).all (fun m => decide (m / 16 < n / 16))
/-- The best of the first k that may. -/
def bestAt (p q : Nat → Bool) (c : Int) : Nat → Int
  | 0 => -1
  | k + 1 => if okB q c ((allOf p).getD k 0) = true then (((allOf p).getD k 0 : Nat) : Int) else bestAt p q c k
theorem okB_iff (q : Nat → Bool) (c : Int) (n : Nat) : okB q c n = true ↔ c < ((n / 16 : Nat) : Int) ∧ ∀ m, m < 256 → q m = true → m / 16 < n / 16 := by
  unfold okB
  rw [Bool.and_eq_true, decide_eq_true_eq, List.all_eq_true]
  constructor
  · rintro ⟨h1, h2⟩
    exact ⟨h1, fun m hm hq => by simpa using h2 m ((at_mem q m).2 ⟨hm, hq⟩)⟩
  · rintro ⟨h1, h2⟩
    refine ⟨h1, fun m hm => ?_⟩
    obtain ⟨a, b⟩ := (at_mem q m).1 hm
    simpa using h2 m a b
theorem okB_mono {q : Nat → Bool} {c : Int} {n m : Nat} (h : n ≤ m) (ho : okB q c n = true) : okB q c m = true := by
  rw [okB_iff] at ho ⊢
  have hd : n / 16 ≤ m / 16 := Nat.div_le_div_right h
  exact ⟨by omega, fun k hk hq => by have := ho.2 k hk hq; omega⟩
theorem best_none {p q : Nat → Bool} {c : Int} (h : okB q c ((allOf p).getD ((allOf p).length - 1) 0) = false) : ∀ k, k ≤ (allOf p).length → bestAt p q c k = -1
  | 0, _ => rfl
  | k + 1, hk => by
    have h1 : okB q c ((allOf p).getD k 0) = false := by
      rw [← Bool.not_eq_true]
      intro ho
      have hle : (allOf p).getD k 0 ≤ (allOf p).getD ((allOf p).length - 1) 0 := by
        by_cases e : k = (allOf p).length - 1
        · rw [e]; exact Nat.le_refl _
        · exact Nat.le_of_lt (at_lt p (show k < (allOf p).length - 1 by omega) (by omega))
      rw [okB_mono hle ho] at h
      cases h
    unfold bestAt
    rw [h1, if_neg (by decide)]
    exact best_none h k (by omega)
theorem at_last (p : Nat → Bool) (h : 0 < (allOf p).length) : topOf p = (((allOf p).getD ((allOf p).length - 1) 0 : Nat) : Int) := by
  have h1 := at_is p ((allOf p).length - 1) (by omega)
  refine topOf_some h1.2 h1.1 (fun m hm h256 => ?_)
  cases hp : p m
  · rfl
  · obtain ⟨k, hk, e⟩ := at_find p m h256 hp
    have : (allOf p).getD k 0 ≤ (allOf p).getD ((allOf p).length - 1) 0 := by
      by_cases e : k = (allOf p).length - 1
      · rw [e]; exact Nat.le_refl _
      · exact Nat.le_of_lt (at_lt p (show k < (allOf p).length - 1 by omega) (by omega))
    omega
theorem best_would {p q : Nat → Bool} {c : Int} (hr : rightB p q c = true) : bestAt p q c (allOf p).length = wouldOf p q c := by
  by_cases h0 : (allOf p).length = 0
  · have ht : topOf p = -1 := topOf_none (fun m hm => by
      cases hp : p m
      · rfl
      · obtain ⟨k, hk, _⟩ := at_find p m hm hp
        omega)
    unfold wouldOf
    rw [h0, ht, if_neg (by omega)]
    rfl
  · have ht := at_last p (by omega)
    obtain ⟨L, hL⟩ : ∃ L, (allOf p).length = L + 1 := ⟨(allOf p).length - 1, by omega⟩
    cases ho : okB q c ((allOf p).getD ((allOf p).length - 1) 0)
    · rw [best_none ho _ (Nat.le_refl _)]
      unfold wouldOf
      rw [if_neg]
      rintro ⟨_, _, h3, h4⟩
      rw [← Bool.not_eq_true, okB_iff] at ho
      apply ho
      rw [ht] at h3 h4
      refine ⟨by omega, fun m hm hq => ?_⟩
      have := topOf_ge q m hm hq
      omega
    · rw [hL]
      unfold bestAt
      rw [hL, Nat.add_sub_cancel] at ho ht
      rw [ho, if_pos rfl]
      unfold wouldOf
      rw [okB_iff] at ho
      rw [if_pos, ht]
      refine ⟨hr, by omega, by omega, ?_⟩
      rcases topOf_cases q with ⟨e, _⟩ | ⟨n, e, hn, hq, _⟩
      · left; omega
      · right
        have := ho.2 n hn hq
        omega
end Go.Proofs.YtgddbmbljlngnaaDoor
