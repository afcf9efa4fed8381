/- CoresAlone: plain facts: who is of at least a level, and what runs of them. -/
import Derived.Test.YtningajaimbncaaCorY
import Derived.Test.YtningajaimbncaaCoresR
namespace Go.Proofs.Ytningajaimbncaa
open Go.RowKit

def d0 : ThT := ⟨0, 0, 0⟩
def ownA (lv : Int) (l : List ThT) (k : Nat) : List ThT := (l.take k).filter fun t => decide (lv ≤ t.l)
def idsA (lv : Int) (l : List ThT) (k : Nat) : List Nat := (List.range k).filter fun i => decide (lv ≤ (l.getD i d0).l)
theorem ownA_zero (lv : Int) (l : List ThT) : ownA lv l 0 = [] := by simp [ownA]
theorem idsA_zero (lv : Int) (l : List ThT) : idsA lv l 0 = [] := rfl
theorem ownA_next {lv : Int} {l : List ThT} {k : Nat} {t : ThT} (hk : l[k]? = some t) : ownA lv l (k + 1) = ownA lv l k ++ if lv ≤ t.l then [t] else [] := by
  unfold ownA
  rw [List.take_add_one, hk, List.filter_append]
  congr 1
  by_cases h : lv ≤ t.l
  · rw [if_pos h]; simp [h]
  · rw [if_neg h]; simp; omega
theorem idsA_next {lv : Int} {l : List ThT} {k : Nat} {t : ThT} (hk : l[k]? = some t) : idsA lv l (k + 1) = idsA lv l k ++ if lv ≤ t.l then [k] else [] := by
  unfold idsA
  rw [List.range_succ, List.filter_append]
  by_cases h : lv ≤ t.l
  · rw [if_pos h]; simp [hk, h]
  · rw [if_neg h]; simp [hk]; omega
theorem ownA_ids (lv : Int) (l : List ThT) : ∀ k, k ≤ l.length → ownA lv l k = (idsA lv l k).map fun i => l.getD i d0
  | 0, _ => by rw [ownA_zero, idsA_zero]; rfl
  | k + 1, h => by
    have hk : l[k]? = some (l[k]'(by omega)) := List.getElem?_eq_getElem _
    have e : l.getD k d0 = l[k]'(by omega) := by simp [List.getD, hk]
    rw [ownA_next hk, idsA_next hk, List.map_append, ← ownA_ids lv l k (by omega)]
    congr 1
    by_cases h : lv ≤ (l[k]'(by omega)).l
    · rw [if_pos h, if_pos h]; simp only [List.map_cons, List.map_nil, e]
    · rw [if_neg h, if_neg h]; rfl
theorem ownA_len (lv : Int) (l : List ThT) (k : Nat) : (ownA lv l k).length ≤ k := by
  unfold ownA
  exact Nat.le_trans (List.length_filter_le _ _) (List.length_take_le _ _)
theorem idsA_len (lv : Int) (l : List ThT) (k : Nat) : (idsA lv l k).length ≤ k := by
  unfold idsA
  have := List.length_filter_le (fun i => decide (lv ≤ (l.getD i d0).l)) (List.range k)
  rw [List.length_range] at this
  exact this
theorem map_getD (f : List Nat) : (List.range f.length).map (fun i => f.getD i 0) = f :=
  List.ext_getElem (by simp) fun i h1 h2 => by simp [List.getD, List.getElem?_eq_getElem h2]
section
variable {l : List ThT} {c sl : Nat} {lv : Int}
theorem ok_own (h : OkT l c sl) : OkT (ownA lv l l.length) c sl :=
  ⟨h.c1, h.c8, h.s1, h.s2, Nat.le_trans (ownA_len _ _ _) h.len, fun t ht => h.each t (List.mem_of_mem_take (List.mem_filter.1 ht).1)⟩
theorem own_of (h : OkT l c sl) : OwnN (thN l c sl) (thN (ownA lv l l.length) c sl) lv.toNat fun i => (idsA lv l l.length).getD i 0 := by
  have hlen : (ownA lv l l.length).length = (idsA lv l l.length).length := by rw [ownA_ids lv l _ (Nat.le_refl _), List.length_map]
  have hg : ∀ i, i < (ownA lv l l.length).length → (ownA lv l l.length).getD i ⟨0, 0, 0⟩ = l.getD ((idsA lv l l.length).getD i 0) ⟨0, 0, 0⟩ := fun i hi => by
    have hi2 : i < (idsA lv l l.length).length := by omega
    conv => lhs; rw [ownA_ids lv l _ (Nat.le_refl _)]
    simp [List.getD, List.getElem?_eq_getElem hi2, d0]
  refine ⟨rfl, rfl, fun i hi => ?_, fun i hi => ?_, fun i hi => ?_, ?_, h.lev⟩
  · show ((ownA lv l l.length).getD i ⟨0, 0, 0⟩).c.toNat = (l.getD _ ⟨0, 0, 0⟩).c.toNat
    rw [hg i hi]
  · show ((ownA lv l l.length).getD i ⟨0, 0, 0⟩).l.toNat = (l.getD _ ⟨0, 0, 0⟩).l.toNat
    rw [hg i hi]
  · show ((ownA lv l l.length).getD i ⟨0, 0, 0⟩).w.toNat = (l.getD _ ⟨0, 0, 0⟩).w.toNat
    rw [hg i hi]
  · show (List.range l.length).filter _ = (List.range (ownA lv l l.length).length).map _
    rw [hlen, map_getD]
    unfold idsA
    refine List.filter_congr fun k hk => ?_
    rw [List.mem_range] at hk
    have hkk : l[k]? = some (l[k]'hk) := List.getElem?_eq_getElem _
    have e : l.getD k d0 = l[k]'hk := by simp [List.getD, hkk]
    have e2 : l.getD k ⟨0, 0, 0⟩ = l[k]'hk := e
    have := (h.each _ (List.getElem_mem hk)).2.1
    show decide (lv.toNat ≤ (l.getD k ⟨0, 0, 0⟩).l.toNat) = decide (lv ≤ (l.getD k d0).l)
    rw [e2, e]
    exact decide_eq_decide.2 (by omega)
theorem rows_sorted (zs : List Int) : (sortI zs).Pairwise (· ≤ ·) := by
  have := List.pairwise_mergeSort (le := fun a b : Int => decide (a ≤ b)) (fun a b c h1 h2 => by simp at *; omega) (fun a b => by simp; omega) zs
  exact this.imp fun h => by simpa using h
/-- The document's law, as the program asks it. -/
theorem alone_rows (h : OkT l c sl) (t : Nat) : (rowN (thN l c sl) t).filter (fun x => decide (x ∈ castL (idsA lv l l.length))) = (rowN (thN (ownA lv l l.length) c sl) t).map fun x => (((idsA lv l l.length).getD x.toNat 0 : Nat) : Int) := by
  have hO := own_of (lv := lv) h
  obtain ⟨T, hT⟩ : ∃ T, thN l c sl = T := ⟨_, rfl⟩
  obtain ⟨U, hU⟩ : ∃ U, thN (ownA lv l l.length) c sl = U := ⟨_, rfl⟩
  obtain ⟨F, hF⟩ : ∃ F, idsA lv l l.length = F := ⟨_, rfl⟩
  have hUm : U.m = F.length := by
    rw [← hU, ← hF]
    show (ownA lv l l.length).length = _
    rw [ownA_ids lv l _ (Nat.le_refl _), List.length_map]
  rw [hT, hU, hF] at hO
  rw [hT, hU, hF]
  have hmf : ∀ k, k ∈ F ↔ k < T.m ∧ lv.toNat ≤ T.lev k := fun k => by
    have := hO.row
    rw [hUm, map_getD] at this
    rw [← this, List.mem_filter, List.mem_range, decide_eq_true_eq]
  have hrun := alone_run hO t
  have e1 : (T.runN t).filter (fun k => decide (k ∈ F)) = (U.runN t).map fun i => F.getD i 0 := by
    rw [← hrun]
    refine List.filter_congr fun k hk => decide_eq_decide.2 ?_
    rw [hmf]
    exact ⟨fun q => q.2, fun q => ⟨(run_ready hO.hl t k hk).1, q⟩⟩
  refine List.Perm.eq_of_pairwise (le := (· ≤ ·)) (fun a b _ _ h1 h2 => Int.le_antisymm h1 h2) ((rows_sorted _).filter _) ?_ ?_
  · rw [List.pairwise_map]
    refine List.Pairwise.imp_of_mem ?_ (rows_sorted _)
    intro a b ha hb hab
    obtain ⟨i', hi'⟩ := List.mem_iff_getElem?.1 ha
    obtain ⟨j', hj'⟩ := List.mem_iff_getElem?.1 hb
    obtain ⟨i, rfl, _, hi⟩ := row_mem hO.hlU hi'
    obtain ⟨j, rfl, _, hj⟩ := row_mem hO.hlU hj'
    simp only [Int.toNat_natCast]
    by_cases e : i = j
    · rw [e]; omega
    · have := hO.rise (i := i) (j := j) (by omega) hj
      omega
  · refine ((List.mergeSort_perm _ _).filter _).trans ?_
    refine List.Perm.trans ?_ ((List.mergeSort_perm _ _).map _).symm
    refine List.Perm.of_eq ?_
    rw [List.filter_map, List.map_map]
    have e2 : (T.runN t).filter ((fun x : Int => decide (x ∈ castL F)) ∘ fun k : Nat => ((k : Nat) : Int)) = (T.runN t).filter fun k => decide (k ∈ F) := List.filter_congr fun k _ => decide_eq_decide.2 mem_cast
    rw [e2, e1, List.map_map]
    rfl
end
end Go.Proofs.Ytningajaimbncaa
