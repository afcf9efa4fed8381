/- Plain facts: where each line takes a slot and may be anywhere, the cores have as many, but for one. -/
import Derived.Test.YtmjcicpmkmagfaaDoorVecU
import Derived.Test.YtmjcicpmkmagfaaDoorVecR
namespace Go.Proofs.YtmjcicpmkmagfaaDoor

def sumTo (n : Nat → Nat) : Nat → Nat
  | 0 => 0
  | k + 1 => sumTo n k + n k
theorem sum_congr {n m : Nat → Nat} : ∀ {k : Nat}, (∀ c, c < k → n c = m c) → sumTo n k = sumTo m k
  | 0, _ => rfl
  | k + 1, h => by
    rw [sumTo, sumTo, sum_congr (k := k) (fun c hc => h c (by omega)), h k (by omega)]
theorem sum_one {n : Nat → Nat} {x : Nat} : ∀ {k : Nat}, x < k → sumTo (fun d => n d + (if d = x then 1 else 0)) k = sumTo n k + 1
  | 0, h => by omega
  | k + 1, h => by
    rw [sumTo, sumTo]
    by_cases e : x = k
    · subst e
      rw [sum_congr (k := x) (m := n) (fun c hc => by rw [if_neg (by omega)]; rfl), if_pos rfl]
      omega
    · rw [sum_one (k := k) (by omega), if_neg (by omega)]
      omega
theorem sum_ge {n : Nat → Nat} {b : Nat} : ∀ {k : Nat}, (∀ c, c < k → b ≤ n c) → b * k ≤ sumTo n k
  | 0, _ => by simp [sumTo]
  | k + 1, h => by
    have h1 := sum_ge (k := k) (fun c hc => h c (by omega))
    have h2 := h k (by omega)
    rw [sumTo, Nat.mul_succ]
    omega
theorem sum_le {n : Nat → Nat} {b : Nat} : ∀ {k : Nat}, (∀ c, c < k → n c ≤ b) → sumTo n k ≤ b * k
  | 0, _ => by simp [sumTo]
  | k + 1, h => by
    have h1 := sum_le (k := k) (fun c hc => h c (by omega))
    have h2 := h k (by omega)
    rw [sumTo, Nat.mul_succ]
    omega
theorem sum_lt {n : Nat → Nat} {b x : Nat} : ∀ {k : Nat}, x < k → (∀ c, c < k → n c ≤ b + 1) → n x ≤ b → sumTo n k + 1 ≤ (b + 1) * k
  | 0, h, _, _ => by omega
  | k + 1, h, ha, hx => by
    rw [sumTo, Nat.mul_succ]
    by_cases e : x = k
    · subst e
      have := sum_le (k := x) (fun c hc => ha c (by omega))
      omega
    · have := sum_lt (k := k) (by omega) (fun c hc => ha c (by omega)) hx
      have := ha k (by omega)
      omega
theorem sum_gt {n : Nat → Nat} {b x : Nat} : ∀ {k : Nat}, x < k → (∀ c, c < k → b ≤ n c + 1) → b ≤ n x → b * k + 1 ≤ sumTo n k + k
  | 0, h, _, _ => by omega
  | k + 1, h, ha, hx => by
    rw [sumTo, Nat.mul_succ]
    by_cases e : x = k
    · subst e
      have h3 : ∀ {j : Nat}, j ≤ x → b * j ≤ sumTo n j + j := by
        intro j
        induction j with
        | zero => intro _; simp [sumTo]
        | succ j ih =>
          intro hj
          have h1 := ih (by omega)
          have h2 := ha j (by omega)
          rw [sumTo, Nat.mul_succ]
          omega
      have := h3 (Nat.le_refl x)
      omega
    · have := sum_gt (k := k) (by omega) (fun c hc => ha c (by omega)) hx
      have := ha k (by omega)
      omega
/-- The operations: each line takes, anywhere. -/
def evO (n : Nat) : List VopT := (List.range n).map fun k : Nat => ⟨1, (k : Int), 255⟩
theorem evO_len (n : Nat) : (evO n).length = n := by simp [evO]
theorem evO_snoc (n : Nat) : evO (n + 1) = evO n ++ [⟨1, (n : Int), 255⟩] := by simp [evO, List.range_succ]
theorem allow_all (c : Nat) (h : c < 8) : allow 255 c = true := by
  have h8 : c = 0 ∨ c = 1 ∨ c = 2 ∨ c = 3 ∨ c = 4 ∨ c = 5 ∨ c = 6 ∨ c = 7 := by omega
  rcases h8 with rfl | rfl | rfl | rfl | rfl | rfl | rfl | rfl <;> rfl
/-- How it stands when the first k lines have taken. -/
def EvenV (cores k : Nat) (st : List SlotT × List Int) : Prop :=
  (∀ x, x ∈ st.2 → x = 0) ∧ (∀ (j : Nat) (s : SlotT), j < k → st.1[j]? = some s → 0 < s.vec) ∧ (∀ (j : Nat) (s : SlotT), k ≤ j → st.1[j]? = some s → s.vec = 0) ∧
  (∀ c d, c < cores → d < cores → cntV st.1 c ≤ cntV st.1 d + 1) ∧ sumTo (cntV st.1) cores = k
theorem even_run {cores lines : Nat} (h1 : 1 ≤ cores) (h8 : cores ≤ 8) (hl : lines ≤ 224 * cores) : ∀ k, k ≤ lines → EvenV cores k (runV cores lines (evO k))
  | 0, _ => by
    have hz : ∀ (j : Nat) (s : SlotT), (List.replicate lines zs)[j]? = some s → s.vec = 0 := by
      intro j s h
      rw [List.getElem?_replicate] at h
      split at h
      · cases h; rfl
      · cases h
    have hc : ∀ c, cntV (List.replicate lines zs) c = 0 := fun c => by
      unfold cntV
      rw [List.countP_replicate]
      simp [onC, zs]
    refine ⟨fun x hx => by simp [runV, evO] at hx, fun j s hj => by omega, fun j s _ h => hz j s h, fun c d _ _ => ?_, ?_⟩
    · show cntV (List.replicate lines zs) c ≤ _
      rw [hc]
      omega
    · show sumTo (cntV (List.replicate lines zs)) cores = 0
      rw [sum_congr (m := fun _ => 0) (fun c _ => hc c)]
      have : ∀ k, sumTo (fun _ => 0) k = 0 := by
        intro k
        induction k with
        | zero => rfl
        | succ k ih => rw [sumTo, ih]
      exact this cores
  | k + 1, hk => by
    obtain ⟨e1, e2, e3, e4, e5⟩ := even_run h1 h8 hl k (by omega)
    obtain ⟨g, gl, _⟩ := run_good cores lines (evO k)
    rw [evO_snoc, runV_snoc]
    generalize runV cores lines (evO k) = st at *
    obtain ⟨l, es⟩ := st
    simp only at e1 e2 e3 e4 e5 g gl
    have hkl : k < l.length := by omega
    have h0 : (l.getD k zs).vec = 0 := e3 k _ (Nat.le_refl k) (getD_of hkl)
    have he : errV l ⟨1, (k : Int), 255⟩ = 0 := errV_zero.2 ⟨by simp only; omega, by simp only; omega, by simp only [Int.toNat_natCast, h0]⟩
    have hok : ∀ c, c < cores → okV l ⟨1, (k : Int), 255⟩ c = true := fun c hc => by
      unfold okV
      rw [allow_all c (by omega)]
      rfl
    obtain ⟨x, hp⟩ : ∃ x, pick (cntV l) (okV l ⟨1, (k : Int), 255⟩) cores = some x := by
      cases hp : pick (cntV l) (okV l ⟨1, (k : Int), 255⟩) cores with
      | some x => exact ⟨x, rfl⟩
      | none =>
        exfalso
        have := sum_ge (n := cntV l) (b := 224) (k := cores) (fun c hc => by
          have := pick_none hp c hc
          have := hok c hc
          apply Classical.byContradiction
          intro h
          exact (pick_none hp c hc) ⟨hok c hc, by omega⟩)
        omega
    obtain ⟨p1, p2, p3, p4⟩ := pick_some hp
    obtain ⟨v, ev, v1, _⟩ := vec_ok p3
    have hst : stepV cores l ⟨1, (k : Int), 255⟩ = (l.set k ⟨x, v⟩, 0) := by
      unfold stepV
      rw [if_neg (by simpa using he), if_neg (by simp), hp]
      simp [ev]
    have hmin : ∀ d, d < cores → cntV l x ≤ cntV l d := fun d hd => by
      by_cases h : cntV l d < 224
      · exact p4 d hd (hok d hd) h
      · omega
    have hcn := fun d => cnt_put (c := x) (v := v) (d := d) hkl h0 v1
    unfold nextV
    rw [hst]
    refine ⟨fun y hy => ?_, fun j s hj h => ?_, fun j s hj h => ?_, fun c d hc hd => ?_, ?_⟩
    · rw [List.mem_append] at hy
      rcases hy with hy | hy
      · exact e1 y hy
      · simpa using hy
    · rcases (set_at hkl).1 h with ⟨_, rfl⟩ | ⟨n1, h⟩
      · show 0 < v
        omega
      · exact e2 j s (by omega) h
    · rcases (set_at hkl).1 h with ⟨n1, _⟩ | ⟨_, h⟩
      · omega
      · exact e3 j s (by omega) h
    · show cntV (l.set k ⟨x, v⟩) c ≤ cntV (l.set k ⟨x, v⟩) d + 1
      rw [hcn, hcn]
      have := e4 c d hc hd
      have := hmin d hd
      by_cases ec : c = x
      · subst ec
        rw [if_pos rfl]
        omega
      · rw [if_neg ec]
        omega
    · show sumTo (cntV (l.set k ⟨x, v⟩)) cores = k + 1
      rw [sum_congr (m := fun d => cntV l d + (if d = x then 1 else 0)) (fun c _ => hcn c), sum_one p1, e5]
/-- As many, but for one. -/
theorem even_div {n : Nat → Nat} {cores lines c : Nat} (hc : c < cores) (hb : ∀ c d, c < cores → d < cores → n c ≤ n d + 1) (hs : sumTo n cores = lines) : lines / cores ≤ n c ∧ n c ≤ (lines + cores - 1) / cores := by
  have h1 := sum_lt (n := n) (b := n c) (x := c) (k := cores) hc (fun d hd => hb d c hd hc) (Nat.le_refl _)
  have h2 := sum_gt (n := n) (b := n c) (x := c) (k := cores) hc (fun d hd => hb c d hc hd) (Nat.le_refl _)
  rw [hs] at h1 h2
  refine ⟨?_, ?_⟩
  · have : lines / cores < n c + 1 := by
      rw [Nat.div_lt_iff_lt_mul (by omega)]
      omega
    omega
  · rw [Nat.le_div_iff_mul_le (by omega)]
    omega
end Go.Proofs.YtmjcicpmkmagfaaDoor
