/- Package cores, in plain terms: graver threads run just when they did without the lighter ones. No program in sight. -/
import Derived.Test.YtningajaimbncaaCoresP
namespace Go.Proofs.Ytningajaimbncaa

/-- Those of at least a level, renumbered: f names them. -/
structure OwnN (T U : ThN) (lv : Nat) (f : Nat → Nat) : Prop where
  c : U.c = T.c
  sl : U.sl = T.sl
  come : ∀ i, i < U.m → U.come i = T.come (f i)
  lev : ∀ i, i < U.m → U.lev i = T.lev (f i)
  work : ∀ i, i < U.m → U.work i = T.work (f i)
  row : (List.range T.m).filter (fun k => decide (lv ≤ T.lev k)) = (List.range U.m).map f
  hl : ∀ k, k < T.m → T.lev k < 32
theorem OwnN.at' {T U : ThN} {lv : Nat} {f : Nat → Nat} (h : OwnN T U lv f) {i : Nat} (hi : i < U.m) : f i < T.m ∧ lv ≤ T.lev (f i) := by
  have hm : f i ∈ (List.range T.m).filter (fun k => decide (lv ≤ T.lev k)) := by
    rw [h.row]
    exact List.mem_map.2 ⟨i, List.mem_range.2 hi, rfl⟩
  rw [List.mem_filter, List.mem_range, decide_eq_true_eq] at hm
  exact hm
theorem OwnN.hlU {T U : ThN} {lv : Nat} {f : Nat → Nat} (h : OwnN T U lv f) : ∀ i, i < U.m → U.lev i < 32 := fun i hi => by
  rw [h.lev i hi]
  exact h.hl _ (h.at' hi).1
theorem OwnN.rise {T U : ThN} {lv : Nat} {f : Nat → Nat} (h : OwnN T U lv f) {i j : Nat} (hij : i < j) (hj : j < U.m) : f i < f j := by
  have hp : ((List.range U.m).map f).Pairwise (· < ·) := by
    rw [← h.row]
    exact (List.pairwise_lt_range).filter _
  rw [List.pairwise_map] at hp
  have := List.pairwise_iff_getElem.1 hp i j (by simp; omega) (by simp; omega) hij
  simpa using this
theorem OwnN.inj {T U : ThN} {lv : Nat} {f : Nat → Nat} (h : OwnN T U lv f) {i j : Nat} (hi : i < U.m) (hj : j < U.m) (e : f i = f j) : i = j := by
  by_cases h1 : i < j
  · have := h.rise h1 hj; omega
  · by_cases h2 : j < i
    · have := h.rise h2 hi; omega
    · omega
/-- Both runs side by side. -/
structure SameN (T U : ThN) (lv : Nat) (f : Nat → Nat) (s u : StN) : Prop where
  hi : ∀ j, lv ≤ j → s.q j = (u.q j).map f
  lo : ∀ j, j < lv → u.q j = []
  left : ∀ i, i < U.m → u.left i = s.left (f i)
  ran : ∀ i, i < U.m → u.ran i = s.ran (f i)
theorem own_arr {T U : ThN} {lv : Nat} {f : Nat → Nat} (h : OwnN T U lv f) (t : Nat) : (∀ j, lv ≤ j → T.arrN t j = (U.arrN t j).map f) ∧ ∀ j, j < lv → U.arrN t j = [] := by
  refine ⟨fun j hj => ?_, fun j hj => ?_⟩
  · unfold ThN.arrN
    have e1 : (List.range T.m).filter (fun k => decide (T.come k = t ∧ T.lev k = j ∧ 0 < T.work k)) = ((List.range T.m).filter (fun k => decide (lv ≤ T.lev k))).filter (fun k => decide (T.come k = t ∧ T.lev k = j ∧ 0 < T.work k)) := by
      rw [List.filter_filter]
      refine List.filter_congr fun k _ => ?_
      rw [Bool.eq_iff_iff, Bool.and_eq_true, decide_eq_true_eq, decide_eq_true_eq]
      exact ⟨fun q => ⟨q, by omega⟩, fun q => q.1⟩
    rw [e1, h.row, List.filter_map]
    congr 1
    refine List.filter_congr fun i hi => ?_
    rw [List.mem_range] at hi
    simp only [Function.comp]
    rw [h.come i hi, h.lev i hi, h.work i hi]
  · refine List.filter_eq_nil_iff.2 fun i hi => ?_
    rw [List.mem_range] at hi
    have h1 := (h.at' hi).2
    have h2 := h.lev i hi
    rw [decide_eq_true_eq]
    omega
theorem same_come {T U : ThN} {lv : Nat} {f : Nat → Nat} (h : OwnN T U lv f) {s u : StN} (hs : SameN T U lv f s u) (t : Nat) : SameN T U lv f (T.comeN s t) (U.comeN u t) := by
  obtain ⟨a1, a2⟩ := own_arr h t
  refine ⟨fun j hj => ?_, fun j hj => ?_, hs.left, hs.ran⟩
  · show s.q j ++ T.arrN t j = (u.q j ++ U.arrN t j).map f
    rw [hs.hi j hj, a1 j hj, List.map_append]
  · show u.q j ++ U.arrN t j = []
    rw [hs.lo j hj, a2 j hj]
    rfl
theorem own_down {T U : ThN} {lv : Nat} {f : Nat → Nat} {s u : StN} (hs : SameN T U lv f s u) : ∀ n, downN s.q n = (downN u.q n).map f ++ downN s.q (min n lv)
  | 0 => by simp [downN]
  | n + 1 => by
    by_cases hn : lv ≤ n
    · have ih := own_down hs n
      have e1 : min (n + 1) lv = lv := by omega
      have e2 : min n lv = lv := by omega
      rw [e2] at ih
      rw [e1, downN, downN, hs.hi n hn, ih, List.map_append, List.append_assoc]
    · have e1 : min (n + 1) lv = n + 1 := by omega
      have e2 : ∀ m, m ≤ lv → downN u.q m = [] := fun m => by
        induction m with
        | zero => intro _; rfl
        | succ m ih =>
          intro hm
          rw [downN, hs.lo m (by omega), ih (by omega)]
          rfl
      rw [e1, e2 (n + 1) (by omega)]
      rfl
theorem same_run {T U : ThN} {lv : Nat} {f : Nat → Nat} (h : OwnN T U lv f) {s u : StN} (hs : SameN T U lv f s u) : T.pickN s = (U.pickN u).map f ++ (downN s.q (min 32 lv)).take (T.c - (downN u.q 32).length) := by
  unfold ThN.pickN
  rw [own_down hs 32, List.take_append, List.length_map, h.c, List.map_take]
/-- Who runs of the graver ones. -/
theorem same_mem {T U : ThN} {lv : Nat} {f : Nat → Nat} (h : OwnN T U lv f) {s u : StN} (hs : SameN T U lv f s u) {t : Nat} (ha : AtN T t s) (hb : AtN U t u) : (T.pickN s).filter (fun k => decide (lv ≤ T.lev k)) = (U.pickN u).map f ∧ ∀ i, i < U.m → (f i ∈ T.pickN s ↔ i ∈ U.pickN u) := by
  have hlow : ∀ k ∈ (downN s.q (min 32 lv)).take (T.c - (downN u.q 32).length), T.lev k < lv := fun k hk => by
    obtain ⟨j, hj, hq⟩ := mem_downN.1 (List.mem_of_mem_take hk)
    have := (ha.mem j k).1 hq
    omega
  have hup : ∀ i ∈ U.pickN u, i < U.m := fun i hi => by
    obtain ⟨j, hj, hq⟩ := mem_downN.1 (List.mem_of_mem_take hi)
    exact ((hb.mem j i).1 hq).1
  rw [same_run h hs]
  constructor
  · rw [List.filter_append, List.filter_eq_self.2 fun k hk => ?_, List.filter_eq_nil_iff.2 fun k hk => ?_, List.append_nil]
    · have := hlow k hk
      simp
      omega
    · obtain ⟨i, hi, rfl⟩ := List.mem_map.1 hk
      rw [decide_eq_true_eq]
      exact (h.at' (hup i hi)).2
  · intro i hi
    rw [List.mem_append, List.mem_map]
    constructor
    · rintro (⟨i', hi', e⟩ | q)
      · rw [← h.inj (hup i' hi') hi e]
        exact hi'
      · have := hlow _ q
        have := (h.at' hi).2
        omega
    · exact fun q => Or.inl ⟨i, q, rfl⟩
theorem same_do {T U : ThN} {lv : Nat} {f : Nat → Nat} (h : OwnN T U lv f) {s u : StN} (hs : SameN T U lv f s u) {t : Nat} (ha : AtN T t s) (hb : AtN U t u) : SameN T U lv f (T.doN s (T.pickN s)) (U.doN u (U.pickN u)) := by
  obtain ⟨_, hm⟩ := same_mem h hs ha hb
  have hd : ∀ i, i < U.m → decN u (U.pickN u) i = decN s (T.pickN s) (f i) := fun i hi => by
    unfold decN
    rw [hs.left i hi]
    by_cases e : i ∈ U.pickN u
    · rw [if_pos e, if_pos ((hm i hi).2 e)]
    · rw [if_neg e, if_neg (fun q => e ((hm i hi).1 q))]
  have hi' : ∀ i, i < U.m → incN u (U.pickN u) i = incN s (T.pickN s) (f i) := fun i hi => by
    unfold incN
    rw [hs.ran i hi]
    by_cases e : i ∈ U.pickN u
    · rw [if_pos e, if_pos ((hm i hi).2 e)]
    · rw [if_neg e, if_neg (fun q => e ((hm i hi).1 q))]
  have hv : ∀ i, i < U.m → T.movN s (T.pickN s) (f i) = U.movN u (U.pickN u) i := fun i hi => by
    unfold ThN.movN
    rw [decide_eq_decide, hs.ran i hi, h.sl, hm i hi]
  refine ⟨fun j hj => ?_, fun j hj => ?_, hd, hi'⟩
  · have hum : ∀ i ∈ u.q j, i < U.m := fun i hi => ((hb.mem j i).1 hi).1
    show List.filter _ _ = List.map f (List.filter _ _)
    rw [hs.hi j hj, List.filter_map, List.filter_map, ← List.map_append, List.filter_map]
    congr 1
    have e1 : (u.q j).filter ((fun k => !T.movN s (T.pickN s) k) ∘ f) = (u.q j).filter fun k => !U.movN u (U.pickN u) k := List.filter_congr fun i hi => by
      simp only [Function.comp]
      rw [hv i (hum i hi)]
    have e2 : (u.q j).filter ((fun k => T.movN s (T.pickN s) k) ∘ f) = (u.q j).filter fun k => U.movN u (U.pickN u) k := List.filter_congr fun i hi => by
      simp only [Function.comp]
      rw [hv i (hum i hi)]
    rw [e1, e2]
    refine List.filter_congr fun i hi => ?_
    have him : i < U.m := by
      rcases List.mem_append.1 hi with q | q
      · exact hum i (List.mem_filter.1 q).1
      · exact hum i (List.mem_filter.1 q).1
    simp only [Function.comp]
    rw [hd i him]
  · show List.filter _ _ = []
    rw [hs.lo j hj]
    rfl
theorem same_st {T U : ThN} {lv : Nat} {f : Nat → Nat} (h : OwnN T U lv f) : ∀ t, SameN T U lv f (T.stN t) (U.stN t)
  | 0 => ⟨fun _ _ => rfl, fun _ _ => rfl, h.work, fun _ _ => rfl⟩
  | t + 1 => same_do h (same_come h (same_st h t) t) (at_at h.hl t) (at_at h.hlU t)
/-- CoresAlone. -/
theorem alone_run {T U : ThN} {lv : Nat} {f : Nat → Nat} (h : OwnN T U lv f) (t : Nat) : (T.runN t).filter (fun k => decide (lv ≤ T.lev k)) = (U.runN t).map f :=
  (same_mem h (same_come h (same_st h t) t) (at_at h.hl t) (at_at h.hlU t)).1
end Go.Proofs.Ytningajaimbncaa
