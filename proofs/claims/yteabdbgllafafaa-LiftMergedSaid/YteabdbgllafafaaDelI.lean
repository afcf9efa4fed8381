/- slices.Delete at []int, at a row of the call's own that may have been cut in front: the library's own contract, instantiated by the numbers of this translation. Generic. -/
import Derived.Shelf.SlGeneric
import Derived.Shelf.Slices.Delete
import Derived.Test.YteabdbgllafafaaQue
import Derived.Test.YteabdbgllafafaaNum
namespace Go.Proofs.Yteabdbgllafafaa
open Go.Shelf Go.RowKit
def laidDeleteRen : Go.Shelf.Ren := ⟨fun | 23 => 23 | n => n, fun | 22 => 22 | 3 => 3 | 4 => 4 | 0 => 0 | n => n, fun | n => n⟩
theorem laidDelete : Go.Proofs.Lays2.n23 Try.prog laidDeleteRen := {
  mixed := by kernel_rfl
  f23 := Try.func23.trans (congrArg some (by kernel_rfl))
  t0 := Try.underlying0
  a0 := Try.isAgg0
  z0 := Try.sizeOf0
  v0 := Try.zeroValue0
  t3 := Try.underlying3
  a3 := Try.isAgg3
  z3 := Try.sizeOf3
  v3 := Try.zeroValue3
  t4 := Try.underlying4
  a4 := Try.isAgg4
  z4 := Try.sizeOf4
  v4 := Try.zeroValue4
  t22 := Try.underlying22
  a22 := Try.isAgg22
  z22 := Try.sizeOf22
  v22 := Try.zeroValue22
  i3 := by kernel_rfl }
open Go.Sort Go.RowKit in
theorem delete_any (blk off cap i j : Nat) (zs : List Int) (w : World) (hH : Holds (Value.int .i64) w blk off zs.toArray) (hcap : zs.length ≤ cap) (hm : cap ≤ 9223372036854775807) (hij : i ≤ j) (hj : j ≤ zs.length) :
    Calls Try.prog 23 #[.slice (some ⟨blk, off, none⟩) zs.length cap, .int .i64 i, .int .i64 j] w fun e w' => e = .returned (.slice (some ⟨blk, off, none⟩) (zs.length - (j - i)) cap) ∧ ∃ q, w' = putRow (Value.int .i64) (Sort.ahead w q) blk off (zs.take i ++ zs.drop j ++ List.replicate (j - i) 0).toArray := Any.slices_Delete_int laidDelete blk off cap i j zs w hH hcap hm hij hj
theorem flat_intD (l : List Int) : shI.flat l = l.map (Value.int .i64) := by
  induction l with
  | nil => rfl
  | cons a r ih => rw [show shI.flat (a :: r) = shI.enc a ++ shI.flat r from rfl, ih]; rfl
theorem que_holds {w : World} {g off n : Nat} {e : TypeId} {l : List Int} {cur : Array Value} (hl : l.length = n) (hh : w.heap[g]? = some (.cells cur e (0, 0))) (hc : ∀ i, i < n * shI.size → cur[off + i]? = (shI.flat l)[i]?) : Sort.Holds (Value.int .i64) w g off l.toArray := by
  intro j hj
  have hj' : j < l.length := by simpa using hj
  refine ⟨?_, by simp [World.frozen?, hh]⟩
  have hs : shI.size = 1 := rfl
  rw [cell_of_row w g _ _ _ _ hh, hc j (by rw [hs]; omega), flat_intD]
  simp [hj']
/-- Cells written in the middle of a block. -/
theorem heap_putRow {w : World} {g q off : Nat} {cur : Array Value} {e : TypeId} {fr : Nat × Nat} (d : Array Int) (hb : w.heap[g]? = some (.cells cur e fr)) :
    (Sort.putRow (Value.int .i64) (Sort.ahead w q) g off d).heap[g]? = some (.cells (Sort.putCells (Value.int .i64) off d cur) e fr) := by
  simp [Sort.putRow, Sort.mapBlock, Sort.ahead, Array.getElem?_modify, hb, Sort.onCells]
theorem grown_putRow {w : World} {g q off : Nat} (d : Array Int) : w.grownBy (Sort.putRow (Value.int .i64) (Sort.ahead w q) g off d) (some g) := by
  refine ⟨rfl, rfl, rfl, by simp, fun k hk hne => ?_⟩
  have : g ≠ k := fun e => hne (by rw [e])
  simp [Sort.putRow, Sort.mapBlock, Sort.ahead, Array.getElem?_modify, this]
/-- Delete of one. -/
theorem delete_que {base e n c : Nat} {ad : Option Addr} {l : List Int} (k : Nat) (w : World) (HO : Hid (Que shI w base e (.slice ad n c) n l)) (hk : k < n) :
    Calls Try.prog 23 #[.slice ad n c, .int .i64 (k : Int), .int .i64 ((k : Int) + 1)] w fun e' w' => e' = .returned (.slice ad (n - 1) c) ∧ Que shI w' base e (.slice ad (n - 1) c) (n - 1) (l.take k ++ l.drop (k + 1)) ∧ w.grownBy w' (Value.slice ad n c).ownBlock := by
  obtain ⟨h1, h2⟩ := HO.out
  rcases h2 with ⟨h2, h3⟩ | ⟨g, off, cap, cur, hv, hg, hh, hn, hc, hs, ht⟩
  · omega
  · simp only [Value.slice.injEq, true_and] at hv
    obtain ⟨rfl, rfl⟩ := hv
    subst h1
    have hH := que_holds rfl hh ht
    refine (delete_any g off c k (k + 1) l w hH hn (by unfold maxLen at hc; exact hc) (by omega) (by omega)).mono ?_
    rintro e' w' ⟨rfl, q, rfl⟩
    have e1 : k + 1 - k = 1 := by omega
    rw [e1]
    have hlen : (l.take k ++ l.drop (k + 1)).length = l.length - 1 := by
      simp
      omega
    have hs1 : shI.size = 1 := rfl
    rw [hs1, Nat.mul_one] at hs
    refine ⟨rfl, ⟨hlen, Or.inr ⟨g, off, c, _, rfl, hg, heap_putRow _ hh, by omega, hc, ?_, fun i hi => ?_⟩⟩, grown_putRow _⟩
    · rw [hs1]
      simp [Sort.putCells]
      omega
    · rw [hs1, Nat.mul_one] at hi
      generalize l.take k ++ l.drop (k + 1) = L at hlen ⊢
      have hLi : i < L.length := by omega
      rw [flat_intD, List.getElem?_map, List.getElem?_eq_getElem hLi]
      have hci : off + i < cur.size := by omega
      have hsz : (L ++ List.replicate 1 (0 : Int)).toArray.size = L.length + 1 := by simp
      simp only [Sort.putCells, Array.getElem?_mapIdx, Array.getElem?_eq_getElem hci, Option.map_some]
      rw [if_pos ⟨by omega, by rw [hsz]; omega⟩, show off + i - off = i by omega, getElem!_pos _ _ (by rw [hsz]; omega)]
      simp [hLi]
/-- Which one it is. -/
theorem filter_cut {l : List Int} (h : l.Pairwise fun a b => ¬ a = b) {k : Nat} {i : Int} (hk : l[k]? = some i) : l.take k ++ l.drop (k + 1) = l.filter fun x => decide (¬ x = i) := by
  induction l generalizing k with
  | nil => cases hk
  | cons a r ih =>
    rw [List.pairwise_cons] at h
    cases k with
    | zero =>
      simp only [List.getElem?_cons_zero, Option.some.injEq] at hk
      subst hk
      rw [List.filter_cons_of_neg (by simp), List.take_zero, List.nil_append, List.drop_succ_cons, List.drop_zero]
      exact (List.filter_eq_self.2 fun b hb => by simpa using fun q : b = a => h.1 b hb q.symm).symm
    | succ k =>
      rw [List.getElem?_cons_succ] at hk
      have hm := List.mem_of_getElem? hk
      rw [List.filter_cons_of_pos (by simpa using h.1 i hm), List.take_succ_cons, List.cons_append, List.drop_succ_cons, ih h.2 hk]
end Go.Proofs.Yteabdbgllafafaa
