/- corebellref.KPlay: its comparison; slices.SortFunc by it, at a row of the call's own. -/
import Derived.Test.YtnnphmpodcmmoaaWhlL
import Derived.Test.YtnnphmpodcmmoaaArg
namespace Go.Proofs.Ytnnphmpodcmmoaa
open Go.RowKit Go.Sort

/-- What fired, at a tick that an int holds twice. -/
abbrev FiB := {p : FiT // p.1 < 4611686018427387904}
instance : Inhabited FiB := ⟨⟨(0, 0), by decide⟩⟩
def encB (x : FiB) : List Value := [.int .i64 (x.1.1 : Int), .int .i64 x.1.2]
def cmpB (x y : FiB) : Int := if x.1.1 = y.1.1 then if x.1.2 < y.1.2 then -1 else 1 else (x.1.1 : Int) - (y.1.1 : Int)
theorem lt_cmp (x y : FiB) : ltOf cmpB x y = decide (lexT x.1 y.1) := by
  have h : cmpB x y < 0 ↔ lexT x.1 y.1 := by
    unfold cmpB lexT
    split
    · split <;> omega
    · omega
  unfold ltOf
  rw [decide_eq_decide]
  exact h
theorem swoB : SWO (ltOf cmpB) where
  irrefl x := by rw [lt_cmp]; simp [lex_irr]
  trans x y z h1 h2 := by
    rw [lt_cmp, decide_eq_true_eq] at *
    exact lex_trans h1 h2
  ntrans x y z h1 h2 := by
    rw [lt_cmp, decide_eq_false_iff_not] at *
    unfold lexT at *
    omega
theorem totB (x y : FiB) (h1 : ltOf cmpB x y = false) (h2 : ltOf cmpB y x = false) : x = y := by
  rw [lt_cmp, decide_eq_false_iff_not] at *
  refine Subtype.ext (Prod.ext ?_ ?_)
  · unfold lexT at *; omega
  · unfold lexT at *; omega
set_option maxHeartbeats 1000000 in
set_option maxRecDepth 100000 in
theorem cmp_N (a b : Nat) (i j : Int) (ha : a < 4611686018427387904) (hb : b < 4611686018427387904) (W : World) (r : Int) (hr : Hid (r = if a = b then if i < j then -1 else 1 else (a : Int) - (b : Int))) :
    Calls Try.prog 20 #[.agg #[.int .i64 (a : Int), .int .i64 i], .agg #[.int .i64 (b : Int), .int .i64 j]] W fun e w' => e = .returned (.int .i64 r) ∧ ∃ q os', w' = grow (W.drewN q) os' := by
  by_cases h1 : a = b
  · subst h1
    by_cases h2 : i < j
    · obtain rfl : r = -1 := by rw [hr.out, if_pos rfl, if_pos h2]
      go_enter Try.func20, Try.ntmps20
      go_wp2_with fail
      go_ret
      exact ⟨rfl, 0, _, by rw [alloc_eq_grow, alloc_eq_grow, grow_grow]; rfl⟩
    · obtain rfl : r = 1 := by rw [hr.out, if_pos rfl, if_neg h2]
      go_enter Try.func20, Try.ntmps20
      go_wp2_with fail
      go_ret
      exact ⟨rfl, 0, _, by rw [alloc_eq_grow, alloc_eq_grow, grow_grow]; rfl⟩
  · obtain rfl : r = (a : Int) - (b : Int) := by rw [hr.out, if_neg h1]
    have hne : ((a : Int) != (b : Int)) = true := by simp; omega
    have hwr : IntKind.i64.wrap ((a : Int) - (b : Int)) = (a : Int) - (b : Int) := by rw [IntKind.wrap_i64]; omega
    generalize (a : Int) = x at hne hwr ⊢
    generalize (b : Int) = y at hne hwr ⊢
    clear hr
    go_enter Try.func20, Try.ntmps20
    go_wp2_with fail
    go_ret
    exact ⟨rfl, 0, _, by rw [alloc_eq_grow, alloc_eq_grow, grow_grow]; rfl⟩
theorem cmpLaysB (blk off size : Nat) (w : World) : CmpLays Try.prog 20 #[] encB 2 cmpB blk off size w :=
  fun _ _ _ _ x y => cmp_N x.1.1 y.1.1 x.1.2 y.1.2 x.2 y.2 _ _ (Lib.hid rfl)
/-- A row of cells put in the place of another. -/
theorem heap_put {w : World} {g n : Nat} {os : Array Obj} {cur : Array Value} {e : TypeId} {fr : Nat × Nat} (d : Array Value) (hb : w.heap[g]? = some (.cells cur e fr)) :
    (grow (putRow id (Sort.ahead w n) g 0 d) os).heap[g]? = some (.cells (putCells id 0 d cur) e fr) := by
  have hg : g < w.heap.size := (Array.getElem?_eq_some_iff.1 hb).1
  rw [heap_grow_old _ _ (by simpa using hg)]
  simp [putRow, mapBlock, Sort.ahead, Array.getElem?_modify, hb, onCells]
theorem grown_put {w : World} {g n : Nat} {os : Array Obj} (d : Array Value) : w.grownBy (grow (putRow id (Sort.ahead w n) g 0 d) os) (some g) := by
  refine ⟨rfl, rfl, rfl, by simp, fun k hk hne => ?_⟩
  rw [heap_grow_old _ _ (by simpa using hk)]
  have : g ≠ k := fun e => hne (by rw [e])
  simp [putRow, mapBlock, Sort.ahead, Array.getElem?_modify, this]
theorem take_put (cur : Array Value) (ts : List Value) (h : ts.length ≤ cur.size) : (putCells id 0 ts.toArray cur).toList.take ts.length = ts := by
  apply List.ext_getElem?
  intro j
  by_cases hj : j < ts.length
  · rw [List.getElem?_take_of_lt hj, Array.getElem?_toList]
    simp [putCells, hj, show j < cur.size by omega]
  · rw [List.getElem?_take_eq_none (by omega), List.getElem?_eq_none (by omega)]
theorem flatK_list (l : List FiB) : (flatK encB 2 l.toArray).toList = shF.flat (l.map (·.1)) := by
  apply List.ext_getElem?
  intro t
  have hs : shF.size = 2 := rfl
  have hlen : (shF.flat (l.map (·.1))).length = l.length * 2 := by rw [shF.flat_len, List.length_map]; rfl
  by_cases ht : t < l.length * 2
  · have hq : t / 2 < l.length := by omega
    have hget : (l.map (·.1))[t / 2]? = some (l[t / 2]).1 := by rw [List.getElem?_map, List.getElem?_eq_getElem hq]; rfl
    have h1 := shF.flat_at (l.map (·.1)) (t / 2) (t % 2) _ hget (by rw [hs]; exact Nat.mod_lt _ (by decide))
    rw [hs, show t / 2 * 2 + t % 2 = t by omega] at h1
    rw [h1, Array.getElem?_toList, Array.getElem?_eq_getElem (by simpa using ht)]
    have h2 := get_flatK encB 2 l.toArray t (by simpa using ht)
    rw [getElem!_pos _ t (by simpa using ht)] at h2
    rw [h2]
    have h3 : l.toArray[t / 2]! = l[t / 2] := by simp [hq]
    rw [h3]
    have h4 : t % 2 = 0 ∨ t % 2 = 1 := by omega
    rcases h4 with h4 | h4 <;> rw [h4] <;> rfl
  · rw [List.getElem?_eq_none (by simp; omega), List.getElem?_eq_none (by omega)]
/-- SortFunc at a row of the call's own: sorted by ticks and then by Ids. -/
theorem sort_row {base n c : Nat} {ad : Option Addr} {l : List FiT} (w : World) (HO : Hid (w.ownsRow base 31 2 (.slice ad n c) n (shF.flat l))) (hl : Hid (l.length = n)) (hB : Hid (∀ p ∈ l, p.1 < 4611686018427387904)) (hN : Hid (l.Pairwise fun a b => ¬ a = b)) (hn : n < 4611686018427387904) :
    Calls Try.prog 19 #[.slice ad n c, .func (.func 20) #[] #[]] w fun e w' => e = .returned (.tuple #[]) ∧ (∃ l', l'.Pairwise lexT ∧ (∀ x, x ∈ l' ↔ x ∈ l) ∧ w'.ownsRow base 31 2 (.slice ad n c) n (shF.flat l')) ∧ w.grownBy w' (Value.slice ad n c).ownBlock := by
  by_cases h0 : n = 0
  · have hl0 : l = [] := List.eq_nil_of_length_eq_zero (by rw [hl.out, h0])
    have ho := HO.out
    subst h0 hl0
    refine (sort_none ad c _ w).mono ?_
    rintro e w' ⟨rfl, rfl⟩
    exact ⟨rfl, ⟨[], List.Pairwise.nil, fun _ => Iff.rfl, ho⟩, grown_refl _ _⟩
  · obtain ⟨h1, h2⟩ := HO.out
    rcases h2 with ⟨_, h3⟩ | ⟨g, cap, cur, hv, hg, hh, hnc, hcm, hs, ht⟩
    · exact absurd h3 h0
    · simp only [Value.slice.injEq, true_and] at hv
      obtain ⟨rfl, rfl⟩ := hv
      obtain ⟨lb, hlb⟩ : ∃ lb : List FiB, lb.map (·.1) = l := ⟨l.attach.map fun p => ⟨p.1, hB.out _ p.2⟩, by rw [List.map_map]; exact List.attach_map_subtype_val l⟩
      have hlbn : lb.length = n := by rw [← hl.out, ← hlb, List.length_map]
      have hfl : (flatK encB 2 lb.toArray).toList = shF.flat l := by rw [flatK_list, hlb]
      have hH : HoldsK encB 2 w g 0 lb.toArray := by
        intro j hj
        have hj2 : j < n * 2 := by rw [size_flatK] at hj; simpa [hlbn] using hj
        refine ⟨?_, by simp [World.frozen?, hh]⟩
        rw [Nat.zero_add, cell_of_row w g j _ _ _ hh, ← Array.getElem?_toList]
        have e1 : (cur.toList.take (n * 2))[j]? = cur.toList[j]? := List.getElem?_take_of_lt hj2
        rw [← e1, ht, ← hfl, Array.getElem?_toList, getElem!_pos _ j hj, Array.getElem?_eq_getElem hj]
        rfl
      have hcall := sort_any encB (fun _ => rfl) (fun x v hv => by simp [encB] at hv; rcases hv with rfl | rfl <;> rfl) cmpB swoB g 0 c lb.toArray w (cmpLaysB g 0 _ w) hH (heap_lt hh) (by simpa [hlbn] using hn) totB
      rw [List.size_toArray, hlbn] at hcall
      refine hcall.mono ?_
      rintro e w' ⟨rfl, q, os, rfl⟩
      obtain ⟨sb, hsb⟩ : ∃ sb, lb.mergeSort (fun x y => !(ltOf cmpB) y x) = sb := ⟨_, rfl⟩
      have hperm : sb.Perm lb := by rw [← hsb]; exact List.mergeSort_perm _ _
      have hpw : sb.Pairwise fun a b => (!(ltOf cmpB) b a) = true := by
        rw [← hsb]
        refine List.pairwise_mergeSort (fun a b c h1 h2 => ?_) (fun a b => ?_) lb
        · simp only [Bool.not_eq_true'] at *
          exact swoB.ntrans c b a h2 h1
        · rw [lt_cmp, lt_cmp]
          by_cases q1 : lexT b.1 a.1
          · simp [q1, lex_asy q1]
          · simp [q1]
      have hnd : (sb.map (·.1)).Pairwise fun a b => ¬ a = b := by
        have : (lb.map (·.1)).Pairwise fun a b => ¬ a = b := by rw [hlb]; exact hN.out
        exact ((hperm.map _).pairwise_iff (fun h e => h e.symm)).2 this
      have hsrt : (sb.map (·.1)).Pairwise lexT := by
        rw [List.pairwise_map] at hnd ⊢
        refine (hnd.and hpw).imp ?_
        intro a b h
        have h2 := h.2
        rw [lt_cmp] at h2
        simp at h2
        exact lex_tot h2 (fun e => h.1 e.symm)
      have hsn : sb.length = n := by rw [hperm.length_eq, hlbn]
      refine ⟨rfl, ⟨sb.map (·.1), hsrt, fun x => ?_, ?_⟩, ?_⟩
      · rw [← hlb]
        exact (hperm.map _).mem_iff
      · have hsz : (shF.flat (sb.map (·.1))).length = n * 2 := by rw [shF.flat_len, List.length_map, hsn]; rfl
        have e0 : flatK encB 2 sb.toArray = (shF.flat (sb.map (·.1))).toArray := by rw [← flatK_list]
        show (grow (putRow id (Sort.ahead w q) g 0 (flatK encB 2 (lb.toArray.toList.mergeSort fun x y => !(ltOf cmpB) y x).toArray)) os).ownsRow base 31 2 (.slice (some ⟨g, 0, none⟩) n c) n (shF.flat (sb.map (·.1)))
        rw [List.toList_toArray, hsb, e0]
        refine ⟨hsz, Or.inr ⟨g, c, _, rfl, hg, heap_put _ hh, hnc, hcm, by simpa [putCells] using hs, ?_⟩⟩
        rw [← hsz]
        exact take_put cur _ (by rw [hsz, hs]; omega)
      · exact grown_put _
end Go.Proofs.Ytnnphmpodcmmoaa
