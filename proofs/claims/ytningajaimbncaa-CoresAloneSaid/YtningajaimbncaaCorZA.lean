/- slices.DeleteFunc at []int with CoresAlone's function (it captures a slice of numbers), at a row of the call's own. -/
import Derived.Test.YtningajaimbncaaCorZ
namespace Go.Proofs.Ytningajaimbncaa
open Go.Shelf Go.RowKit

/-- What the function says, in whatever world holds the slice. -/
theorem outs_gives {ia : Option Addr} {n ic : Nat} {l : List Int} (X : Nat) (x : Int) (W : World) (hc : W.cell? ⟨X, 0, none⟩ = some (.slice ia n ic)) (_ : X < W.heap.size) (HA : Hid (shI.At W ia ic l)) (hl : Hid (l.length = n)) (hn : n ≤ 9223372036854775807) :
    FnGives Try.prog 22 #[.pointer (some ⟨X, 0, none⟩)] #[.int .i64 x] (.bool (decide (¬ x ∈ l))) W := by
  show Calls Try.prog 22 #[.int .i64 x, .pointer (some ⟨X, 0, none⟩)] W _
  by_cases h : x ∈ l
  · have HQ : Hid (true = true ↔ x ∈ l) := Lib.hid ⟨fun _ => h, fun _ => rfl⟩
    have HD : Hid (decide (¬ x ∈ l) = false) := Lib.hid (by simpa using h)
    clear h
    go_enter Try.func22, Try.ntmps22
    go_wp2_with (first
      | (go_at_call 16; (with_reducible refine (contains_P _ _ HA hl hn true HQ).mono ?_); rintro e w1 ⟨rfl, rfl⟩)
      | fail)
    go_ret
    exact ⟨by rw [HD.out]; rfl, 0, rfl⟩
  · have HQ : Hid (false = true ↔ x ∈ l) := Lib.hid ⟨fun q => (by cases q), fun q => absurd q h⟩
    have HD : Hid (decide (¬ x ∈ l) = true) := Lib.hid (by simpa using h)
    clear h
    go_enter Try.func22, Try.ntmps22
    go_wp2_with (first
      | (go_at_call 16; (with_reducible refine (contains_P _ _ HA hl hn false HQ).mono ?_); rintro e w1 ⟨rfl, rfl⟩)
      | fail)
    go_ret
    exact ⟨by rw [HD.out]; rfl, 0, rfl⟩
section
variable {ia : Option Addr} {m ic : Nat} {L : List Int} {X : Nat}
theorem outs_pred (w : World) (hX : X < w.heap.size) (hc : w.cell? ⟨X, 0, none⟩ = some (.slice ia m ic)) (HA : shI.At w ia ic L) (hl : L.length = m) (hm : m ≤ 9223372036854775807) :
    PredAt Try.prog 22 #[.pointer (some ⟨X, 0, none⟩)] (Value.int .i64) (fun x => decide (¬ x ∈ L)) w :=
  fun W x hb => outs_gives X x W ((hb.cell (p := ⟨X, 0, none⟩) hX).trans hc) (Nat.lt_of_lt_of_le hX hb.size) (Lib.hid (HA.step hb)) (Lib.hid hl) hm
open Go.Sort in
theorem outs_over (blk off size : Nat) (w : World) (hX : X < w.heap.size) (hne : X ≠ blk) (hc : w.cell? ⟨X, 0, none⟩ = some (.slice ia m ic)) (HA : shI.At w ia ic L) (hl : L.length = m) (hm : m ≤ 9223372036854775807) (hna : ∀ b o, ia = some ⟨b, o, none⟩ → b ≠ blk) :
    PredOver Try.prog 22 #[.pointer (some ⟨X, 0, none⟩)] (Value.int .i64) (fun x => decide (¬ x ∈ L)) blk off size w :=
  fun n os dk x _ => outs_gives X x _ (by
    unfold sortWorld
    rw [cell?_grow _ _ _ (by show X < (putRow _ _ _ _ _).heap.size; rw [size_putRow]; exact hX), cell?_putRow_other _ _ blk off _ _ (Or.inl hne)]
    exact hc) (by unfold sortWorld; rw [size_grow, size_putRow]; show X < w.heap.size + _; omega) (Lib.hid ⟨HA.1, fun h0 => by
      obtain ⟨b, o, e, hb, hl⟩ := HA.2 h0
      refine ⟨b, o, e, by unfold sortWorld; rw [size_grow, size_putRow]; show b < w.heap.size + _; omega, fun k hk => ?_⟩
      unfold sortWorld
      rw [cell?_grow _ _ _ (by show b < (putRow _ _ _ _ _).heap.size; rw [size_putRow]; exact hb), cell?_putRow_other _ _ blk off _ _ (Or.inl (hna b o e))]
      exact hl k hk⟩) (Lib.hid hl) hm
end
/-- DeleteFunc at the nil slice. -/
theorem delo_none (X : Nat) (w : World) :
    Calls Try.prog 20 #[.slice none 0 0, .func (.func 22) #[] #[.pointer (some ⟨X, 0, none⟩)]] w fun e w' => e = .returned (.slice none 0 0) ∧ w = w' := by
  have hi : Calls Try.prog 32 #[.slice none 0 0, .func (.func 22) #[] #[.pointer (some ⟨X, 0, none⟩)]] w fun e w' => e = .returned (.int .i64 (-1)) ∧ w = w' := by
    go_enter Try.func32, Try.ntmps32
    go_wp2_with fail
    go_loop [8] (fun i => i = .int .i64 0) (fun _ => 0)
    case atStart => rfl
    case round =>
      obtain rfl := hrel
      go_wp2_with fail
      go_ret
      exact ⟨rfl, rfl⟩
  go_enter Try.func20, Try.ntmps20
  go_wp2_with (first
    | (go_at_call 32; (with_reducible refine hi.mono ?_); rintro e w1 ⟨rfl, rfl⟩)
    | fail)
  go_ret
  exact ⟨rfl, rfl⟩
/-- DeleteFunc at a row of the call's own, nil too. -/
theorem delo_own {base n c : Nat} {ad : Option Addr} {l : List Int} {ia : Option Addr} {m ic : Nat} {L : List Int} (X k : Nat) (w : World) (HO : Hid (w.ownsRow base 3 1 (.slice ad n c) n (shI.flat l))) (hl : Hid (l.length = n)) (hn : n ≤ 1000000) (hX : Hid (X < base)) (hc : Hid (w.cell? ⟨X, 0, none⟩ = some (.slice ia m ic))) (hbs : base ≤ w.heap.size) (HA : Hid (shI.At w ia ic L)) (hL : Hid (L.length = m)) (hm : m ≤ 9223372036854775807) (hna : Hid (∀ b o, ia = some ⟨b, o, none⟩ → b < base)) (hk : Hid ((l.filter fun x => decide (x ∈ L)).length = k)) :
    Calls Try.prog 20 #[.slice ad n c, .func (.func 22) #[] #[.pointer (some ⟨X, 0, none⟩)]] w fun e' w' => e' = .returned (.slice ad k c) ∧ w'.ownsRow base 3 1 (.slice ad k c) k (shI.flat (l.filter fun x => decide (x ∈ L))) ∧ w.grownBy w' (Value.slice ad n c).ownBlock := by
  have ho := HO.out
  obtain ⟨h1, h2⟩ := HO.out
  rcases h2 with ⟨h2, h3⟩ | ⟨g, cap, cur, hv, hg, hh, hnc, hcm, hs, ht⟩
  · simp only [Value.slice.injEq] at h2
    obtain ⟨rfl, rfl, rfl⟩ := h2
    have e0 : l = [] := List.eq_nil_of_length_eq_zero hl.out
    subst e0
    obtain rfl : k = 0 := hk.out.symm
    refine (delo_none X w).mono ?_
    rintro e' w' ⟨rfl, rfl⟩
    exact ⟨rfl, ho, srt_grown _ _⟩
  · simp only [Value.slice.injEq, true_and] at hv
    obtain ⟨rfl, rfl⟩ := hv
    have hln := hl.out
    subst hln
    have hH : Go.Sort.Holds (Value.int .i64) w g 0 l.toArray := holds_of_blockI hh (by rw [← flat_int]; simpa using ht)
    have eg : ∀ args w, (callFunc 22 args).run Try.prog w = .ok (.enter 22 args) w := enters_of Try.func22 (by kernel_rfl) rfl
    have hXb := hX.out
    have hXw : X < w.heap.size := by omega
    have hne : X ≠ g := by omega
    have hna' : ∀ b o, ia = some ⟨b, o, none⟩ → b ≠ g := fun b o e => by have := hna.out b o e; omega
    have hsz : l.toArray.size = l.length := by simp
    have K := AnyE.slices_DeleteFunc laidDF (Value.int .i64) (fun _ => rfl) (fun x => decide (¬ x ∈ L)) 22 #[.pointer (some ⟨X, 0, none⟩)] eg 0 Try.zeroValue3 g 0 c l.toArray w (outs_pred w hXw hc.out HA.out hL.out hm) (outs_over g 0 _ w hXw hne hc.out HA.out hL.out hm hna') hH (by rw [hsz]; omega) (by rw [hsz]; exact hnc)
    have ef : (l.toArray.toList.filter fun x => !decide (¬ x ∈ L)) = l.filter fun x => decide (x ∈ L) := by simp
    rw [ef, hk.out, hsz] at K
    have hml := hk.out
    obtain ⟨Y, hY⟩ : ∃ Y, (l.filter fun x => decide (x ∈ L)) = Y := ⟨_, rfl⟩
    rw [hY] at K hml ⊢
    subst hml
    have hmn : Y.length ≤ l.length := by rw [← hY]; exact List.length_filter_le _ _
    refine Calls.mono K ?_
    rintro e' w' ⟨rfl, q, rfl⟩
    have hl2 : (Y ++ List.replicate (l.length - Y.length) (0 : Int)).length = l.length := by simp; omega
    have o := ownsRow_sortedI (n := q) (os := #[]) (ts := Y ++ List.replicate (l.length - Y.length) (0 : Int)) hl2 hg hh hnc hcm hs
    have gg := grownBy_sortedI (w := w) (g := g) (n := q) (os := #[]) (Y ++ List.replicate (l.length - Y.length) (0 : Int)).toArray
    rw [Go.Sort.grow_empty] at o gg
    rw [← flat_int] at o
    have o2 := own_take (S := shI) (k := Y.length) o hl2 (by omega)
    rw [List.take_left' rfl] at o2
    exact ⟨rfl, o2, gg⟩
end Go.Proofs.Ytningajaimbncaa
