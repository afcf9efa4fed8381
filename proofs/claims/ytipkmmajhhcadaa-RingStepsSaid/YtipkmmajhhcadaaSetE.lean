/- One cell of one entry is written, in a row of the call's own: the row reads as the list with that entry set. Generic: no function of the project in sight. -/
import Derived.Test.YtipkmmajhhcadaaMem
namespace Go.Proofs.Ytipkmmajhhcadaa
open Go.RowKit

theorem flat_set {α : Type} (S : Shape α) {a' : α} {i : Nat} {v : Value} (hi : i < S.size) : ∀ {l : List α} {k : Nat} {a : α}, l[k]? = some a → (S.enc a).set i v = S.enc a' → S.flat (l.set k a') = (S.flat l).set (k * S.size + i) v
  | [], k, a, h, _ => by cases h
  | b :: r, 0, a, h, e => by
    cases h
    rw [List.set_cons_zero, show S.flat (a' :: r) = S.enc a' ++ S.flat r from rfl, show S.flat (b :: r) = S.enc b ++ S.flat r from rfl, Nat.zero_mul, Nat.zero_add, List.set_append_left _ _ (by rw [S.len]; exact hi), e]
  | b :: r, k + 1, a, h, e => by
    rw [List.getElem?_cons_succ] at h
    rw [List.set_cons_succ, show S.flat (b :: r.set k a') = S.enc b ++ S.flat (r.set k a') from rfl, show S.flat (b :: r) = S.enc b ++ S.flat r from rfl, List.set_append_right _ _ (by rw [S.len, Nat.add_mul]; omega), flat_set S hi h e, S.len]
    congr 2
    rw [Nat.add_mul]
    omega
theorem own_entry {α : Type} {S : Shape α} {w : World} {base g n cap k i : Nat} {e : TypeId} {l : List α} {a a' : α} {v : Value} (h : w.ownsRow base e S.size (.slice (some ⟨g, 0, none⟩) n cap) n (S.flat l)) (hk : l[k]? = some a) (hi : i < S.size) (he : (S.enc a).set i v = S.enc a') :
    (w.setCell ⟨g, k * S.size + i, none⟩ v).ownsRow base e S.size (.slice (some ⟨g, 0, none⟩) n cap) n (S.flat (l.set k a')) := by
  obtain ⟨h1, h2⟩ := h
  rcases h2 with ⟨h2, _⟩ | ⟨g', cap', cur, hv, hg, hh, hn, hc, hs, ht⟩
  · cases h2
  · simp only [Value.slice.injEq, Option.some.injEq, Addr.mk.injEq, and_true, true_and] at hv
    obtain ⟨rfl, rfl⟩ := hv
    refine ⟨by rw [flat_set S hi hk he, List.length_set]; exact h1, Or.inr ⟨g, cap, _, rfl, hg, heap_setCell_same w g _ cur _ v hh, hn, hc, by simpa using hs, ?_⟩⟩
    rw [flat_set S hi hk he, ← ht, Array.toList_setIfInBounds, List.take_set]
theorem own_froz {w : World} {base g n cap size : Nat} {e : TypeId} {xs : List Value} (h : w.ownsRow base e size (.slice (some ⟨g, 0, none⟩) n cap) n xs) (i : Nat) : w.frozen? ⟨g, i, none⟩ = false := by
  obtain ⟨h1, h2⟩ := h
  rcases h2 with ⟨h2, _⟩ | ⟨g', cap', cur, hv, hg, hh, _⟩
  · cases h2
  · simp only [Value.slice.injEq, Option.some.injEq, Addr.mk.injEq, and_true, true_and] at hv
    obtain ⟨rfl, rfl⟩ := hv
    exact frozen_of_row w g i _ _ hh
end Go.Proofs.Ytipkmmajhhcadaa
