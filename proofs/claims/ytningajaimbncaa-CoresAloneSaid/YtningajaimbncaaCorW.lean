/- slices.DeleteFunc at []int with NRun's function (it captures a number), at a row of the call's own: the library's own contract, instantiated by the numbers of this translation; slices.Clone of numbers. -/
import Derived.Shelf.SlicesE.DeleteFunc
import Derived.Lib.SliceRun
import Derived.Test.YtningajaimbncaaCorV
namespace Go.Proofs.Ytningajaimbncaa
open Go.Shelf Go.RowKit
def laidDFRen : Go.Shelf.Ren := ⟨fun | 10 => 20 | 6 => 32 | n => n, fun | 22 => 29 | 23 => 3 | 25 => 42 | 3 => 3 | 4 => 4 | 0 => 0 | n => n, fun | n => n⟩
theorem laidDF : Go.Proofs.SlLaysH.n10 Try.prog laidDFRen := {
  mixed := by kernel_rfl
  f6 := ⟨Try.f32.name, by decide, Try.func32.trans (congrArg some (by kernel_rfl))⟩
  f10 := ⟨Try.f20.name, by decide, Try.func20.trans (congrArg some (by kernel_rfl))⟩
  t0 := Try.underlying0
  a0 := Try.isAgg0
  z0 := Try.sizeOf0
  v0 := Try.zeroValue0
  t3 := Try.underlying3
  a3 := Try.isAgg3
  z3 := Try.sizeOf3
  v3 := Try.zeroValue3
  t4 := Try.underlying4
  a4 := Try.isAgg4
  z4 := Try.sizeOf4
  v4 := Try.zeroValue4
  t22 := Try.underlying29
  a22 := Try.isAgg29
  z22 := Try.sizeOf29
  v22 := Try.zeroValue29
  a23 := Try.isAgg3
  z23 := Try.sizeOf3
  t25 := Try.underlying42
  a25 := Try.isAgg42
  z25 := Try.sizeOf42
  v25 := Try.zeroValue42 }
/-- What the function says, in whatever world holds the number. -/
theorem same_gives (id x : Int) (B : Nat) (W : World) (hc : W.cell? ⟨B, 0, none⟩ = some (.int .i64 id)) :
    FnGives Try.prog 27 #[.pointer (some ⟨B, 0, none⟩)] #[.int .i64 x] (.bool (decide (x = id))) W := by
  show Calls Try.prog 27 #[.int .i64 x, .pointer (some ⟨B, 0, none⟩)] W _
  by_cases h : x = id
  · subst h
    go_enter Try.func27, Try.ntmps27
    go_wp2_with fail
    go_ret
    exact ⟨by simp, 0, rfl⟩
  · have h2 : (x == id) = false := by simpa using h
    go_enter Try.func27, Try.ntmps27
    go_wp2_with fail
    go_ret
    exact ⟨by simp [h], 0, rfl⟩
theorem same_pred (id : Int) (B : Nat) (w : World) (hB : B < w.heap.size) (hc : w.cell? ⟨B, 0, none⟩ = some (.int .i64 id)) :
    PredAt Try.prog 27 #[.pointer (some ⟨B, 0, none⟩)] (Value.int .i64) (fun x => decide (x = id)) w :=
  fun W x hb => same_gives id x B W ((hb.cell (p := ⟨B, 0, none⟩) hB).trans hc)
open Go.Sort in
theorem same_over (id : Int) (B blk off size : Nat) (w : World) (hB : B < w.heap.size) (hne : B ≠ blk) (hc : w.cell? ⟨B, 0, none⟩ = some (.int .i64 id)) :
    PredOver Try.prog 27 #[.pointer (some ⟨B, 0, none⟩)] (Value.int .i64) (fun x => decide (x = id)) blk off size w :=
  fun n os dk x _ => same_gives id x B _ (by
    unfold sortWorld
    rw [cell?_grow _ _ _ (by show B < (putRow _ _ _ _ _).heap.size; rw [size_putRow]; exact hB), cell?_putRow_other _ _ blk off _ _ (Or.inl hne)]
    exact hc)
/-- DeleteFunc at the nil slice. -/
theorem delf_none (B : Nat) (w : World) :
    Calls Try.prog 20 #[.slice none 0 0, .func (.func 27) #[] #[.pointer (some ⟨B, 0, none⟩)]] w fun e w' => e = .returned (.slice none 0 0) ∧ w = w' := by
  have hi : Calls Try.prog 32 #[.slice none 0 0, .func (.func 27) #[] #[.pointer (some ⟨B, 0, none⟩)]] w fun e w' => e = .returned (.int .i64 (-1)) ∧ w = w' := by
    go_enter Try.func32, Try.ntmps32
    go_wp2_with fail
    go_loop [8] (fun i => i = .int .i64 0) (fun _ => 0)
    case atStart => rfl
    case round =>
      obtain rfl := hrel
      go_wp2_with fail
      go_ret
      exact ⟨rfl, rfl⟩
  go_enter Try.func20, Try.ntmps20
  go_wp2_with (first
    | (go_at_call 32; (with_reducible refine hi.mono ?_); rintro e w1 ⟨rfl, rfl⟩)
    | fail)
  go_ret
  exact ⟨rfl, rfl⟩
/-- DeleteFunc at a row of the call's own, nil too. -/
theorem delk_own {base n c : Nat} {ad : Option Addr} {l : List Int} (id : Int) (B m : Nat) (w : World) (HO : Hid (w.ownsRow base 3 1 (.slice ad n c) n (shI.flat l))) (hl : Hid (l.length = n)) (hn : n ≤ 1000000) (hB : Hid (B < w.heap.size)) (hc : Hid (w.cell? ⟨B, 0, none⟩ = some (.int .i64 id))) (hBb : Hid (B < base)) (hm : Hid ((l.filter fun x => decide (¬ x = id)).length = m)) :
    Calls Try.prog 20 #[.slice ad n c, .func (.func 27) #[] #[.pointer (some ⟨B, 0, none⟩)]] w fun e' w' => e' = .returned (.slice ad m c) ∧ w'.ownsRow base 3 1 (.slice ad m c) m (shI.flat (l.filter fun x => decide (¬ x = id))) ∧ w.grownBy w' (Value.slice ad n c).ownBlock := by
  have ho := HO.out
  obtain ⟨h1, h2⟩ := HO.out
  rcases h2 with ⟨h2, h3⟩ | ⟨g, cap, cur, hv, hg, hh, hnc, hcm, hs, ht⟩
  · simp only [Value.slice.injEq] at h2
    obtain ⟨rfl, rfl, rfl⟩ := h2
    have e0 : l = [] := List.eq_nil_of_length_eq_zero hl.out
    subst e0
    obtain rfl : m = 0 := hm.out.symm
    refine (delf_none B w).mono ?_
    rintro e' w' ⟨rfl, rfl⟩
    exact ⟨rfl, ho, srt_grown _ _⟩
  · simp only [Value.slice.injEq, true_and] at hv
    obtain ⟨rfl, rfl⟩ := hv
    have hln := hl.out
    subst hln
    have hH : Go.Sort.Holds (Value.int .i64) w g 0 l.toArray := holds_of_blockI hh (by rw [← flat_int]; simpa using ht)
    have eg : ∀ args w, (callFunc 27 args).run Try.prog w = .ok (.enter 27 args) w := enters_of Try.func27 (by kernel_rfl) rfl
    have hne : B ≠ g := by have := hBb.out; omega
    have hsz : l.toArray.size = l.length := by simp
    have K := AnyE.slices_DeleteFunc laidDF (Value.int .i64) (fun _ => rfl) (fun x => decide (x = id)) 27 #[.pointer (some ⟨B, 0, none⟩)] eg 0 Try.zeroValue3 g 0 c l.toArray w (same_pred id B w hB.out hc.out) (same_over id B g 0 _ w hB.out hne hc.out) hH (by rw [hsz]; omega) (by rw [hsz]; exact hnc)
    have ef : (l.toArray.toList.filter fun x => !decide (x = id)) = l.filter fun x => decide (¬ x = id) := by simp
    rw [ef, hm.out, hsz] at K
    have hml := hm.out
    obtain ⟨L, hL⟩ : ∃ L, (l.filter fun x => decide (¬ x = id)) = L := ⟨_, rfl⟩
    rw [hL] at K hml ⊢
    subst hml
    have hmn : L.length ≤ l.length := by rw [← hL]; exact List.length_filter_le _ _
    refine Calls.mono K ?_
    rintro e' w' ⟨rfl, q, rfl⟩
    have hl2 : (L ++ List.replicate (l.length - L.length) (0 : Int)).length = l.length := by simp; omega
    have o := ownsRow_sortedI (n := q) (os := #[]) (ts := L ++ List.replicate (l.length - L.length) (0 : Int)) hl2 hg hh hnc hcm hs
    have gg := grownBy_sortedI (w := w) (g := g) (n := q) (os := #[]) (L ++ List.replicate (l.length - L.length) (0 : Int)).toArray
    rw [Go.Sort.grow_empty] at o gg
    rw [← flat_int] at o
    have o2 := own_take (S := shI) (k := L.length) o hl2 (by omega)
    rw [List.take_left' rfl] at o2
    exact ⟨rfl, o2, gg⟩
set_option maxHeartbeats 1000000 in
set_option maxRecDepth 100000 in
theorem clone_I (xs : List Int) (sa : Option Addr) (n c : Nat) (w : World) (H1 : Hid (xs.length = n)) (HA : Hid (shI.At w sa c xs)) (hn : n ≤ 1000000) :
    Calls Try.prog 21 #[.slice sa n c] w fun e w' => ∃ ra rc, e = .returned (.slice ra n rc) ∧ w'.ownsRow w.heap.size 3 1 (.slice ra n rc) n (shI.flat xs) ∧ Below w.heap.size w w' := by
  obtain ⟨i0, hi, hz0, hz1, hz2⟩ := info_parts' info_int
  have qn : ∀ (w : World) (a : Option Addr) (n c n' c' : Nat), (binOp .eql 29 (.slice a n c) (.slice none n' c')).run Try.prog w = .ok (.bool a.isNone) w := fun w a n c n' c' => Lib.run_eql_slice_nil w _ _ a n c n' c' Try.underlying29
  cases sa with
  | none =>
    obtain ⟨rfl, hx⟩ := HA.out.1 rfl
    have hn0 : n = 0 := by rw [← H1.out, hx]; rfl
    subst hn0 hx
    clear HA H1
    go_enter Try.func21, Try.ntmps21
    go_wp2_with fail
    go_ret
    exact ⟨_, _, rfl, World.ownsRow_nil _ _ _ _, Below.refl _ _⟩
  | some a =>
    have hown : (w.alloc (.cells #[] 3)).ownsRow w.heap.size 3 1 (.slice (some ⟨w.heap.size, 0, none⟩) 0 0) 0 [] := World.ownsRow_made w #[] 0 (Nat.le_refl _) (by decide) rfl
    have HO := Lib.hid hown
    have HA2 := Lib.hid (HA.out.step (below_alloc w (.cells #[] 3)))
    clear hown
    go_enter Try.func21, Try.ntmps21
    go_wp2_with (first
      | (at_builtin; refine wpList_append_at shI rfl _ _ 29 rfl w.heap.size 3 i0 _ 8 Try.underlying29 hi hz0 hz1 hz2 rfl (.slice (some ⟨w.heap.size, 0, none⟩) 0 0) [] xs rfl HO.out (some a) n c rfl H1 HA2.out ?h63 ?hby ?hba ?_)
      | fail)
    case h63 => simp; unfold maxLen; omega
    case hby => simp; omega
    case hba => simp
    intro ra rc w3 own3 grow3 _
    have B3 : Below w.heap.size w w3 := (below_alloc w _).grown grow3 (by simp) (fun k hk => by simp [Value.ownBlock] at hk; omega)
    have O3 := Lib.hid own3
    clear own3 grow3
    go_wp2_with fail
    go_ret
    exact ⟨_, _, rfl, O3.out, B3⟩
end Go.Proofs.Ytningajaimbncaa
