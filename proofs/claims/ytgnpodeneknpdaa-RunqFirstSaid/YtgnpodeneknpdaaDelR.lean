/- slices.DeleteFunc at []int with the function of RunqDrop (it captures a number), at a row of the call's own: the library's own contract, instantiated by the numbers of this translation. -/
import Derived.Shelf.SlicesE.DeleteFunc
import Derived.Lib.SliceRun
import Derived.Test.YtgnpodeneknpdaaDelI
import Derived.Test.YtgnpodeneknpdaaRqL
namespace Go.Proofs.Ytgnpodeneknpdaa
open Go.Shelf Go.RowKit
def laidDFRen : Go.Shelf.Ren := ⟨fun | 10 => 22 | 6 => 40 | n => n, fun | 22 => 24 | 23 => 3 | 25 => 46 | 3 => 3 | 4 => 4 | 0 => 0 | n => n, fun | n => n⟩
theorem laidDF : Go.Proofs.SlLaysH.n10 Try.prog laidDFRen := {
  mixed := by kernel_rfl
  f6 := ⟨Try.f40.name, by decide, Try.func40.trans (congrArg some (by kernel_rfl))⟩
  f10 := ⟨Try.f22.name, by decide, Try.func22.trans (congrArg some (by kernel_rfl))⟩
  t0 := Try.underlying0
  a0 := Try.isAgg0
  z0 := Try.sizeOf0
  v0 := Try.zeroValue0
  t3 := Try.underlying3
  a3 := Try.isAgg3
  z3 := Try.sizeOf3
  v3 := Try.zeroValue3
  t4 := Try.underlying4
  a4 := Try.isAgg4
  z4 := Try.sizeOf4
  v4 := Try.zeroValue4
  t22 := Try.underlying24
  a22 := Try.isAgg24
  z22 := Try.sizeOf24
  v22 := Try.zeroValue24
  a23 := Try.isAgg3
  z23 := Try.sizeOf3
  t25 := Try.underlying46
  a25 := Try.isAgg46
  z25 := Try.sizeOf46
  v25 := Try.zeroValue46 }
/-- What the function says, in whatever world holds the number. -/
theorem same_gives (id x : Int) (B : Nat) (W : World) (hc : W.cell? ⟨B, 0, none⟩ = some (.int .i64 id)) :
    FnGives Try.prog 23 #[.pointer (some ⟨B, 0, none⟩)] #[.int .i64 x] (.bool (decide (x = id))) W := by
  show Calls Try.prog 23 #[.int .i64 x, .pointer (some ⟨B, 0, none⟩)] W _
  by_cases h : x = id
  · subst h
    go_enter Try.func23, Try.ntmps23
    go_wp2_with fail
    go_ret
    exact ⟨by simp, 0, rfl⟩
  · have h2 : (x == id) = false := by simpa using h
    go_enter Try.func23, Try.ntmps23
    go_wp2_with fail
    go_ret
    exact ⟨by simp [h], 0, rfl⟩
theorem same_pred (id : Int) (B : Nat) (w : World) (hB : B < w.heap.size) (hc : w.cell? ⟨B, 0, none⟩ = some (.int .i64 id)) :
    PredAt Try.prog 23 #[.pointer (some ⟨B, 0, none⟩)] (Value.int .i64) (fun x => decide (x = id)) w :=
  fun W x hb => same_gives id x B W ((hb.cell (p := ⟨B, 0, none⟩) hB).trans hc)
open Go.Sort in
theorem same_over (id : Int) (B blk off size : Nat) (w : World) (hB : B < w.heap.size) (hne : B ≠ blk) (hc : w.cell? ⟨B, 0, none⟩ = some (.int .i64 id)) :
    PredOver Try.prog 23 #[.pointer (some ⟨B, 0, none⟩)] (Value.int .i64) (fun x => decide (x = id)) blk off size w :=
  fun n os dk x _ => same_gives id x B _ (by
    unfold sortWorld
    rw [cell?_grow _ _ _ (by show B < (putRow _ _ _ _ _).heap.size; rw [size_putRow]; exact hB), cell?_putRow_other _ _ blk off _ _ (Or.inl hne)]
    exact hc)
/-- DeleteFunc at the nil slice. -/
theorem delf_none (B : Nat) (w : World) :
    Calls Try.prog 22 #[.slice none 0 0, .func (.func 23) #[] #[.pointer (some ⟨B, 0, none⟩)]] w fun e w' => e = .returned (.slice none 0 0) ∧ w = w' := by
  have hi : Calls Try.prog 40 #[.slice none 0 0, .func (.func 23) #[] #[.pointer (some ⟨B, 0, none⟩)]] w fun e w' => e = .returned (.int .i64 (-1)) ∧ w = w' := by
    go_enter Try.func40, Try.ntmps40
    go_wp2_with fail
    go_loop [8] (fun i => i = .int .i64 0) (fun _ => 0)
    case atStart => rfl
    case round =>
      obtain rfl := hrel
      go_wp2_with fail
      go_ret
      exact ⟨rfl, rfl⟩
  go_enter Try.func22, Try.ntmps22
  go_wp2_with (first
    | (go_at_call 40; (with_reducible refine hi.mono ?_); rintro e w1 ⟨rfl, rfl⟩)
    | fail)
  go_ret
  exact ⟨rfl, rfl⟩
/-- DeleteFunc at a row of the call's own, nil too. -/
theorem delf_own {base e n c : Nat} {ad : Option Addr} {l : List Int} (id : Int) (B m : Nat) (w : World) (HO : Hid (w.ownsRow base e 1 (.slice ad n c) n (shI.flat l))) (hl : Hid (l.length = n)) (hn : n ≤ 10000000000000) (hB : Hid (B < w.heap.size)) (hc : Hid (w.cell? ⟨B, 0, none⟩ = some (.int .i64 id))) (hBb : Hid (B < base)) (hm : Hid ((l.filter fun x => decide (¬ x = id)).length = m)) :
    Calls Try.prog 22 #[.slice ad n c, .func (.func 23) #[] #[.pointer (some ⟨B, 0, none⟩)]] w fun e' w' => e' = .returned (.slice ad m c) ∧ shI.At w' ad c (l.filter fun x => decide (¬ x = id)) ∧ w.grownBy w' (Value.slice ad n c).ownBlock := by
  have h := que_own (S := shI) HO.out hl.out
  obtain ⟨h1, h2⟩ := h
  rcases h2 with ⟨h2, h3⟩ | ⟨g, off, cap, cur, hv, hg, hh, hnc, hcm, hs, ht⟩
  · simp only [Value.slice.injEq] at h2
    obtain ⟨rfl, rfl, rfl⟩ := h2
    have e0 : l = [] := List.eq_nil_of_length_eq_zero h1
    subst e0
    obtain rfl : m = 0 := hm.out.symm
    refine (delf_none B w).mono ?_
    rintro e' w' ⟨rfl, rfl⟩
    exact ⟨rfl, Shape.At.nil w, grown_refl _ _⟩
  · simp only [Value.slice.injEq, true_and] at hv
    obtain ⟨rfl, rfl⟩ := hv
    subst h1
    have hH := que_holds rfl hh ht
    have eg : ∀ args w, (callFunc 23 args).run Try.prog w = .ok (.enter 23 args) w := enters_of Try.func23 (by kernel_rfl) rfl
    have hne : B ≠ g := by have := hBb.out; omega
    have hsz : l.toArray.size = l.length := by simp
    have K := AnyE.slices_DeleteFunc laidDF (Value.int .i64) (fun _ => rfl) (fun x => decide (x = id)) 23 #[.pointer (some ⟨B, 0, none⟩)] eg 0 Try.zeroValue3 g off c l.toArray w (same_pred id B w hB.out hc.out) (same_over id B g off _ w hB.out hne hc.out) hH (by rw [hsz]; omega) (by rw [hsz]; exact hnc)
    have ef : (l.toArray.toList.filter fun x => !decide (x = id)) = l.filter fun x => decide (¬ x = id) := by simp
    rw [ef, hm.out, hsz] at K
    obtain ⟨L, hL⟩ : ∃ L, (l.filter fun x => decide (¬ x = id)) = L := ⟨_, rfl⟩
    rw [hL] at K hm ⊢
    have hmn : L.length ≤ l.length := by rw [← hL]; exact List.length_filter_le _ _
    refine Calls.mono K ?_
    rintro e' w' ⟨rfl, q, rfl⟩
    refine ⟨rfl, ⟨(fun h => by cases h), fun h0 => ⟨g, off, rfl, by have := heap_lt hh; simpa using this, fun i hi => ?_⟩⟩, grown_putRow _⟩
    have hs1 : shI.size = 1 := rfl
    rw [hs1, Nat.mul_one] at hi hs
    rw [cell_of_row _ g _ _ _ _ (heap_putRow _ hh), flat_int, List.getElem?_map, List.getElem?_eq_getElem hi]
    have hci : off + i < cur.size := by omega
    have hsz2 : (L ++ List.replicate (l.length - m) (0 : Int)).toArray.size = L.length + (l.length - m) := by simp
    simp only [Sort.putCells, Array.getElem?_mapIdx, Array.getElem?_eq_getElem hci, Option.map_some]
    rw [if_pos ⟨by omega, by rw [hsz2]; omega⟩, show off + i - off = i by omega, getElem!_pos _ _ (by rw [hsz2]; omega)]
    simp [hi]
end Go.Proofs.Ytgnpodeneknpdaa
