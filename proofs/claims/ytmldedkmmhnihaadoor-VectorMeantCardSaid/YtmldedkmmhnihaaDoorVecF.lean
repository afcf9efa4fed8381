/- Plain facts on who finds room. -/
import Derived.Test.YtmldedkmmhnihaaDoorVecP
namespace Go.Proofs.YtmldedkmmhnihaaDoor

/-- Has one of the cores below k, of those that are meant, room? -/
def roomV (l : List SlotT) (m : Int) : Nat → Bool
  | 0 => false
  | c + 1 => roomV l m c || (allow m c && decide (cntV l c < 224))
theorem roomV_iff (l : List SlotT) (m : Int) : ∀ k, roomV l m k = true ↔ ∃ c, c < k ∧ allow m c = true ∧ cntV l c < 224
  | 0 => by simp [roomV]
  | k + 1 => by
    rw [roomV, Bool.or_eq_true, roomV_iff l m k, Bool.and_eq_true, decide_eq_true_iff]
    constructor
    · rintro (⟨c, h1, h2⟩ | h)
      · exact ⟨c, by omega, h2⟩
      · exact ⟨k, by omega, h⟩
    · rintro ⟨c, h1, h2⟩
      by_cases e : c = k
      · subst e; exact Or.inr h2
      · exact Or.inl ⟨c, by omega, h2⟩
theorem take_full {cores k : Nat} {l : List SlotT} {m : Int} (hk : k < l.length) (h0 : (l.getD k zs).vec = 0) : (stepV cores l ⟨1, k, m⟩).2 = if roomV l m cores = true then 0 else 4 := by
  have he : errV l ⟨1, k, m⟩ = 0 := errV_zero.2 ⟨by simp only; omega, by simp only; omega, by simp only [Int.toNat_natCast, h0]⟩
  have hok : ∀ c, okV l ⟨1, k, m⟩ c = allow m c := fun c => by simp [okV]
  unfold stepV
  rw [if_neg (by simpa using he), if_neg (by simp)]
  cases hp : pick (cntV l) (okV l ⟨1, k, m⟩) cores with
  | none =>
    rw [if_neg]
    rw [roomV_iff]
    rintro ⟨c, h1, h2, h3⟩
    exact pick_none hp c h1 ⟨by rw [hok]; exact h2, h3⟩
  | some c =>
    obtain ⟨h1, h2, h3, _⟩ := pick_some hp
    rw [if_pos ((roomV_iff l m cores).2 ⟨c, h1, by rw [← hok]; exact h2, h3⟩)]
/-- How many of the first j lines have a slot on the core. -/
def cntTo (l : List SlotT) (c j : Nat) : Nat := cntV (l.take j) c
theorem cntTo_step {l : List SlotT} {c j : Nat} {s : SlotT} (h : l[j]? = some s) : cntTo l c (j + 1) = cntTo l c j + (if onC c s = true then 1 else 0) := by
  unfold cntTo cntV
  rw [List.take_add_one, h, List.countP_append]
  simp
theorem cntTo_all (l : List SlotT) (c : Nat) : cntTo l c l.length = cntV l c := by
  unfold cntTo
  rw [List.take_length]
theorem cntTo_le (l : List SlotT) (c j : Nat) : cntTo l c j ≤ l.length := by
  have h1 : cntTo l c j ≤ (l.take j).length := List.countP_le_length
  have h2 := List.length_take_le j l
  rw [List.length_take] at h1
  omega
end Go.Proofs.YtmldedkmmhnihaaDoor
