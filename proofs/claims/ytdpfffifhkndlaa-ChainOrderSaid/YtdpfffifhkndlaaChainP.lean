/- Plain facts on shared lines: handlers that say something as long as they have something left. No program in sight. -/
namespace Go.Proofs.Ytdpfffifhkndlaa

structure HdT where
  says : Int
  left : Int
/-- When handlers are right. -/
def RtI (l : List HdT) : Prop := l.length ≤ 16 ∧ ∀ h ∈ l, (h.says = 1 ∨ h.says = 2) ∧ 0 ≤ h.left ∧ h.left ≤ 1099511627776
/-- n times further. -/
def decN (n : Nat) (h : HdT) : HdT := ⟨h.says, if h.left ≤ n then 0 else h.left - n⟩
theorem dec_zero {h : HdT} (h0 : 0 ≤ h.left) : decN 0 h = h := by
  cases h with
  | mk s l =>
    simp only at h0
    unfold decN
    simp only [HdT.mk.injEq, true_and]
    by_cases g : l ≤ ((0 : Nat) : Int)
    · rw [if_pos g]; omega
    · rw [if_neg g]; omega
theorem dec_dec {h : HdT} (n : Nat) : decN 1 (decN n h) = decN (n + 1) h := by
  unfold decN
  simp only [HdT.mk.injEq, true_and]
  by_cases g : h.left ≤ (n : Int)
  · rw [if_pos g, if_pos (by omega), if_pos (by omega)]
  · rw [if_neg g]
    by_cases g2 : h.left - (n : Int) ≤ ((1 : Nat) : Int)
    · rw [if_pos g2, if_pos (by omega)]
    · rw [if_neg g2, if_neg (by omega)]; omega
theorem dec_pos (n : Nat) (h : HdT) : 0 < (decN n h).left ↔ (n : Int) < h.left := by
  unfold decN
  simp only
  split <;> omega
theorem dec_rt {l : List HdT} (h : RtI l) (n : Nat) : RtI (l.map (decN n)) := by
  refine ⟨by rw [List.length_map]; exact h.1, fun x hx => ?_⟩
  obtain ⟨y, hy, rfl⟩ := List.mem_map.1 hx
  obtain ⟨h1, h2, h3⟩ := h.2 y hy
  refine ⟨h1, ?_, ?_⟩ <;> (unfold decN; simp only; split <;> omega)
/-- Up to when somebody has something to say: at the n-th time, n below this. -/
def mostI : List HdT → Int
  | [] => 0
  | h :: l => max h.left (mostI l)
theorem most_nonneg : ∀ l : List HdT, 0 ≤ mostI l
  | [] => Int.le_refl _
  | h :: l => by have := most_nonneg l; simp only [mostI]; omega
theorem most_iff (n : Nat) : ∀ l : List HdT, (n : Int) < mostI l ↔ ∃ h ∈ l, (n : Int) < h.left
  | [] => by simp [mostI]
  | h :: l => by
    simp only [mostI, List.mem_cons, exists_eq_or_imp, ← most_iff n l]
    omega
theorem most_append : ∀ l m : List HdT, mostI (l ++ m) = max (mostI l) (mostI m)
  | [], m => by have := most_nonneg m; simp only [mostI, List.nil_append]; omega
  | h :: l, m => by simp only [mostI, List.cons_append, most_append l m]; omega
theorem most_rev : ∀ l : List HdT, mostI l.reverse = mostI l
  | [] => rfl
  | h :: l => by
    rw [List.reverse_cons, most_append, most_rev l]
    have := most_nonneg l
    simp only [mostI]
    omega
theorem most_dec {l : List HdT} (n : Nat) : mostI (l.map (decN n)) = max (mostI l - n) 0 := by
  induction l with
  | nil => simp only [List.map_nil, mostI]; omega
  | cons h l ih =>
    simp only [List.map_cons, mostI, ih, decN]
    split <;> omega
/-- Who wakes, at the n-th time; the first one has number k. -/
def wakI (n : Nat) : Nat → List HdT → List Nat
  | _, [] => []
  | k, h :: l => (if (n : Int) < h.left ∧ h.says = 2 then [k] else []) ++ wakI n (k + 1) l
/-- Who woke, up to the n-th time. -/
def waksI (l : List HdT) : Nat → List Nat
  | 0 => []
  | n + 1 => waksI l n ++ wakI n 0 l
theorem wak_dec (n : Nat) : ∀ (k : Nat) (l : List HdT), wakI 0 k (l.map (decN n)) = wakI n k l
  | _, [] => rfl
  | k, h :: l => by
    rw [List.map_cons, wakI, wakI, wak_dec n (k + 1) l]
    have h1 : (decN n h).says = h.says := rfl
    have h2 := dec_pos n h
    rw [h1]
    have e : (((0 : Nat) : Int) < (decN n h).left ∧ h.says = 2) ↔ ((n : Int) < h.left ∧ h.says = 2) := by rw [← h2]; rfl
    simp only [e]
theorem wak_mem (n : Nat) : ∀ (k : Nat) (l : List HdT) (j : Nat), j ∈ wakI n k l ↔ ∃ (i : Nat) (h : HdT), j = k + i ∧ l[i]? = some h ∧ (n : Int) < h.left ∧ h.says = 2
  | k, [], j => by simp [wakI]
  | k, h :: l, j => by
    rw [wakI, List.mem_append, wak_mem n (k + 1) l j]
    constructor
    · rintro (g | ⟨i, x, h1, h2, h3⟩)
      · split at g
        · rename_i q
          rw [List.mem_singleton] at g
          exact ⟨0, h, by omega, rfl, q⟩
        · cases g
      · exact ⟨i + 1, x, by omega, by rw [List.getElem?_cons_succ]; exact h2, h3⟩
    · rintro ⟨i, x, h1, h2, h3⟩
      cases i with
      | zero =>
        left
        simp only [List.getElem?_cons_zero, Option.some.injEq] at h2
        subst h2
        rw [if_pos h3, List.mem_singleton]; omega
      | succ i =>
        right
        exact ⟨i, x, by omega, by rw [List.getElem?_cons_succ] at h2; exact h2, h3⟩
theorem wak_len (n : Nat) : ∀ (k : Nat) (l : List HdT), (wakI n k l).length = l.countP fun h => decide ((n : Int) < h.left ∧ h.says = 2)
  | _, [] => rfl
  | k, h :: l => by
    rw [wakI, List.length_append, wak_len n (k + 1) l, List.countP_cons]
    by_cases g : (n : Int) < h.left ∧ h.says = 2
    · rw [if_pos g, if_pos (decide_eq_true g)]; simp only [List.length_singleton]; omega
    · rw [if_neg g, if_neg (by rw [decide_eq_false g]; simp)]; simp
theorem waks_rev (l : List HdT) : ∀ n, (waksI l.reverse n).length = (waksI l n).length
  | 0 => rfl
  | n + 1 => by rw [waksI, waksI, List.length_append, List.length_append, waks_rev l n, wak_len, wak_len, List.countP_reverse]
/-- The tally. -/
structure TalT where
  came : Int
  nobody : Int
  off : Bool
/-- The tally behind n times. -/
def talI (l : List HdT) (n : Nat) : TalT := ⟨n, if (n : Int) ≤ mostI l then 0 else n - mostI l, decide ((n : Int) = mostI l + 5)⟩
/-- One more: somebody says something, or nobody. -/
theorem tal_step (l : List HdT) (n : Nat) (hn : (n : Int) < mostI l + 5) :
    talI l (n + 1) = ⟨n + 1, if (n : Int) < mostI l then 0 else (talI l n).nobody + 1, decide ((if (n : Int) < mostI l then 0 else (talI l n).nobody + 1) = 5)⟩ := by
  unfold talI
  simp only [TalT.mk.injEq]
  have h0 := most_nonneg l
  have e : (if ((n + 1 : Nat) : Int) ≤ mostI l then 0 else ((n + 1 : Nat) : Int) - mostI l) = if (n : Int) < mostI l then 0 else (if (n : Int) ≤ mostI l then 0 else (n : Int) - mostI l) + 1 := by
    by_cases g : (n : Int) < mostI l
    · rw [if_pos g, if_pos (by omega)]
    · rw [if_neg g, if_neg (by omega)]
      split <;> omega
  refine ⟨by omega, e, ?_⟩
  rw [← e]
  have : (((n + 1 : Nat) : Int) = mostI l + 5) ↔ ((if ((n + 1 : Nat) : Int) ≤ mostI l then 0 else ((n + 1 : Nat) : Int) - mostI l) = 5) := by
    split <;> omega
  simp only [this]
theorem tal_zero (l : List HdT) : talI l 0 = ⟨0, 0, false⟩ := by
  have h0 := most_nonneg l
  unfold talI
  simp only [TalT.mk.injEq]
  refine ⟨rfl, if_pos (by omega), decide_eq_false (by omega)⟩
/-- How often is served: up to 'times', or until it is off. -/
def cameI (l : List HdT) (times : Nat) : Nat := if (times : Int) ≤ mostI l + 5 then times else (mostI l + 5).toNat
theorem came_off (l : List HdT) (times : Nat) : (talI l (cameI l times)).off = true ↔ mostI l + 5 ≤ times := by
  have h0 := most_nonneg l
  unfold talI cameI
  simp only [decide_eq_true_eq]
  split <;> omega
theorem came_on {l : List HdT} {times : Nat} (h : (talI l (cameI l times)).off = false) : cameI l times = times := by
  unfold cameI
  by_cases g : (times : Int) ≤ mostI l + 5
  · rw [if_pos g]
  · have := (came_off l times).2 (by omega)
    rw [this] at h; cases h
theorem came_nobody {l : List HdT} {times : Nat} (h : (talI l (cameI l times)).off = true) : (talI l (cameI l times)).nobody = 5 ∧ mostI (l.map (decN (cameI l times))) = 0 := by
  have h0 := most_nonneg l
  have h1 := (came_off l times).1 h
  have e : ((cameI l times : Nat) : Int) = mostI l + 5 := by unfold cameI; split <;> omega
  refine ⟨?_, by rw [most_dec]; omega⟩
  unfold talI
  simp only
  rw [if_neg (by omega)]; omega
/-- How much all have left. -/
def leftI : List HdT → Int
  | [] => 0
  | h :: l => h.left + leftI l
theorem left_zero : ∀ {l : List HdT}, (∀ h ∈ l, 0 ≤ h.left) → (leftI l = 0 ↔ mostI l = 0) ∧ 0 ≤ leftI l
  | [], _ => ⟨by simp [leftI, mostI], Int.le_refl _⟩
  | h :: l, hl => by
    obtain ⟨h1, h2⟩ := left_zero (l := l) fun x hx => hl x (List.mem_cons_of_mem _ hx)
    have h3 := hl h List.mem_cons_self
    have h4 := most_nonneg l
    simp only [leftI, mostI]
    omega
theorem left_said : ∀ {l : List HdT}, (∀ h ∈ l, 0 ≤ h.left) → leftI l - leftI (l.map (decN 1)) = (l.countP fun h => decide (0 < h.left) : Nat)
  | [], _ => rfl
  | h :: l, hl => by
    have h1 := left_said (l := l) fun x hx => hl x (List.mem_cons_of_mem _ hx)
    have h3 := hl h List.mem_cons_self
    rw [List.map_cons, leftI, leftI, List.countP_cons]
    by_cases g : 0 < h.left
    · rw [if_pos (decide_eq_true g)]
      have : (decN 1 h).left = h.left - 1 := by
        unfold decN; simp only; split <;> omega
      omega
    · rw [if_neg (by rw [decide_eq_false g]; simp)]
      have : (decN 1 h).left = h.left := by
        unfold decN; simp only; split <;> omega
      omega
end Go.Proofs.Ytdpfffifhkndlaa
