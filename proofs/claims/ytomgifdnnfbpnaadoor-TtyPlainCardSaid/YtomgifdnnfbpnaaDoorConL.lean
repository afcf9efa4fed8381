/- slices.Concat at bytes: as many rows as there are. -/
import Derived.Test.YtomgifdnnfbpnaaDoorLns
import Derived.Deep.CutRange
namespace Go.Proofs.YtomgifdnnfbpnaaDoor
open Go.RowKit

theorem grow0_L (w : World) : Calls Tryd.prog 32 #[.slice none 0 0, .int .i64 0] w fun e w' => e = .returned (.slice none 0 0) ∧ w = w' := by
  go_enter Tryd.func32, Tryd.ntmps32
  go_wp2
  go_ret
  exact ⟨rfl, rfl⟩
set_option maxHeartbeats 4000000 in
set_option maxRecDepth 100000 in
theorem grow_L (n : Nat) (w : World) (hn : n ≤ 140737488355328) : Calls Tryd.prog 32 #[.slice none 0 0, .int .i64 (n : Nat)] w fun e w' => ∃ ra cap, e = .returned (.slice ra 0 cap) ∧ w'.ownsRow w.heap.size 5 1 (.slice ra 0 cap) 0 [] ∧ Below w.heap.size w w' := by
  by_cases h0 : n = 0
  · subst h0
    refine (grow0_L w).mono ?_
    rintro e w' ⟨rfl, rfl⟩
    exact ⟨none, 0, rfl, World.ownsRow_nil _ _ _ _, Below.refl _ _⟩
  have hn0 : 0 < n := by omega
  obtain ⟨i0, hi, hz0, hz1, hz2⟩ := info_parts' info_byte
  obtain ⟨cap, w2, hc1, hc2, hr, hown, hbl⟩ := run_grow_nil (P := Tryd.prog) (w := w) shB 23 3 23 5 i0 _ 1 Tryd.underlying23 Tryd.underlying3 hi hz0 hz1 hz2 rfl n hn0 (by unfold maxLen; omega) (by omega)
  have hc63 : cap ≤ 9223372036854775807 := by unfold maxLen at hc2; omega
  have h1 : ¬ ((n : Int) < 0) := by omega
  have h4 : (n : Int) > 0 := by omega
  have HO := Lib.hid hown
  have HB := Lib.hid hbl
  clear hown hbl h0
  go_enter Tryd.func32, Tryd.ntmps32
  go_wp2_with (at_builtin; refine Lib.wpList_append_run _ rfl _ _ _ _ rfl _ _ rfl rfl _ _ hr ?_)
  go_ret
  exact ⟨_, cap, rfl, HO.out, HB.out⟩
/-- How many bytes the first ones have. -/
def sumL (ls : List (List UInt8)) : Nat := (ls.map List.length).sum
theorem sumL_flat (ls : List (List UInt8)) : sumL ls = ls.flatten.length := by
  rw [List.length_flatten]; rfl
theorem sumL_next {ls : List (List UInt8)} {k : Nat} {l : List UInt8} (h : ls[k]? = some l) : sumL (ls.take (k + 1)) = sumL (ls.take k) + l.length := by
  rw [List.take_add_one, h]
  simp [sumL]
theorem flat_next {ls : List (List UInt8)} {k : Nat} {l : List UInt8} (h : ls[k]? = some l) : (ls.take (k + 1)).flatten = (ls.take k).flatten ++ l := by
  rw [List.take_add_one, h]
  simp
theorem sumL_le (ls : List (List UInt8)) (k : Nat) : sumL (ls.take k) ≤ sumL ls := by
  have h : sumL ls = sumL (ls.take k) + sumL (ls.drop k) := by
    unfold sumL
    rw [← List.sum_append, ← List.map_append, List.take_append_drop]
  omega
theorem len_le_sum {ls : List (List UInt8)} {k : Nat} {l : List UInt8} (h : ls[k]? = some l) : sumL (ls.take k) + l.length ≤ sumL ls := by
  rw [← sumL_next h]; exact sumL_le ls _
set_option maxHeartbeats 4000000 in
set_option maxRecDepth 100000 in
theorem concat_L {ad : Option Addr} {cap k : Nat} {ls : List (List UInt8)} (w : World) (HL : Hid (LnsAt w ad cap ls)) (hk : Hid (ls.length = k)) (hkn : k ≤ 9223372036854775807) (T : Nat) (hT : Hid (sumL ls = T)) (hTn : T ≤ 140737488355328) :
    Calls Tryd.prog 20 #[.slice ad k cap] w fun e w' => ∃ ra rc, e = .returned (.slice ra T rc) ∧ shB.At w' ra rc ls.flatten ∧ Below w.heap.size w w' := by
  obtain ⟨i0, hi, hz0, hz1, hz2⟩ := info_parts' info_byte
  go_enter Tryd.func20, Tryd.ntmps20
  go_wp2_with fail
  go_loopw [3, 11] (fun v i wr => ∃ j : Nat, j ≤ k ∧ i = .int .i64 j ∧ v = .int .i64 (sumL (ls.take j) : Nat) ∧ Hid (Below w.heap.size w wr)) (fun _ i _ => k - (intOf i).toNat)
  case atStart => exact ⟨0, Nat.zero_le _, rfl, rfl, Lib.hid (Below.refl _ _)⟩
  case round =>
    obtain ⟨j, hj, rfl, rfl, HW⟩ := hrel
    by_cases hlt : j < k
    · obtain ⟨l, hl⟩ : ∃ l, ls[j]? = some l := ⟨ls[j]'(by rw [hk.out]; exact hlt), List.getElem?_eq_getElem _⟩
      have hle := len_le_sum hl
      rw [hT.out] at hle
      have HN := Lib.hid (sumL_next hl)
      obtain ⟨b, off, a, c, rfl, hb0, hc0, _⟩ := at_line HL.out hl
      have hc := (HW.out.cell (p := ⟨b, off + j, none⟩) hb0).trans hc0
      have hb := Nat.lt_of_lt_of_le hb0 HW.out.size
      clear hb0 hc0
      obtain ⟨z, hz⟩ : ∃ z, sumL (ls.take j) = z := ⟨_, rfl⟩
      obtain ⟨y, hy⟩ : ∃ y, l.length = y := ⟨_, rfl⟩
      rw [hz, hy] at hle HN
      rw [hy] at hc
      rw [hz]
      have w1 : IntKind.i64.wrap ((z : Int) + (y : Int)) = ((z + y : Nat) : Int) := by rw [IntKind.wrap_i64]; omega
      have h0 : ¬ (((z + y : Nat) : Int) < 0) := by omega
      have h0d : decide (((z + y : Nat) : Int) < 0) = false := decide_eq_false h0
      clear hz hy hl hle
      go_wp2_with fail
      go_roundw
      case rel => exact ⟨j + 1, by omega, by go_num, by rw [HN.out] <;> rfl, HW⟩
      case measure => simp [intOf]; omega
    · obtain rfl : j = k := by omega
      have e : ls.take j = ls := by rw [← hk.out, List.take_length]
      rw [e, hT.out]
      obtain ⟨wo, rfl⟩ : ∃ wo : World, wo = wr := ⟨_, rfl⟩
      have HL2 := Lib.hid (HL.out.step HW.out)
      have HG := Lib.hid (grow_L T wo hTn)
      clear e hlt hj
      go_wp2_with (first
        | (go_at_call 32; (with_reducible refine HG.out.mono ?_); rintro e wg ⟨ra, rc, rfl, own, hb⟩; have OW := Lib.hid own; have BB := Lib.hid hb; clear own hb)
        | fail)
      go_loopw [6, 27] (fun v i wz => ∃ (i' m : Nat) (xa : Option Addr) (xc : Nat), i' ≤ j ∧ i = .int .i64 i' ∧ v = .slice xa m xc ∧ Hid (sumL (ls.take i') = m) ∧ Hid (wz.ownsRow wo.heap.size 5 1 (.slice xa m xc) m (shB.flat (ls.take i').flatten)) ∧ Hid (Below wo.heap.size wo wz)) (fun _ i _ => j - (intOf i).toNat)
      case atStart => exact ⟨0, 0, ra, rc, Nat.zero_le _, rfl, rfl, Lib.hid rfl, OW, BB⟩
      case round =>
        obtain ⟨i', m, xa, xc, hi', rfl, rfl, HM, HO, HB⟩ := hrel
        by_cases hlt : i' < j
        · obtain ⟨l, hl⟩ : ∃ l, ls[i']? = some l := ⟨ls[i']'(by rw [hk.out]; exact hlt), List.getElem?_eq_getElem _⟩
          have hle := len_le_sum hl
          rw [hT.out, HM.out] at hle
          have HN := Lib.hid (sumL_next hl)
          rw [HM.out] at HN
          have HF := Lib.hid (flat_next hl)
          obtain ⟨b, off, a, c, rfl, hb, hc, ha⟩ := at_line HL2.out hl
          have hc2 := (HB.out.cell (p := ⟨b, off + i', none⟩) hb).trans hc
          have hb2 := Nat.lt_of_lt_of_le hb HB.out.size
          have HA := Lib.hid (ha.step HB.out)
          have HLN : Hid ((ls.take i').flatten.length = m) := Lib.hid (by rw [← sumL_flat, HM.out])
          obtain ⟨y, hy⟩ : ∃ y, l.length = y := ⟨_, rfl⟩
          have HY := Lib.hid hy
          rw [hy] at hle HN hc2
          have hs := HB.out.size
          clear hy hl hc ha
          go_wp2_with (first
            | (at_builtin; refine wpList_append_n shB rfl _ _ 23 rfl wo.heap.size 5 i0 _ 1 Tryd.underlying23 hi hz0 hz1 hz2 rfl (.slice xa m xc) m (ls.take i').flatten l HLN rfl HO.out a y c rfl HY HA.out (by unfold maxLen; omega) (by omega) hs ?_; intro ra9 rc9 w9 own9 grow9 _; have O9 := Lib.hid own9; have B9 := Lib.hid (HB.out.grown grow9 HB.out.size (fun q hq => (own_lt HO.out hq).1)); clear own9 grow9)
            | fail)
          go_roundw
          case rel => exact ⟨i' + 1, m + y, ra9, rc9, by omega, by go_num, rfl, HN, Lib.hid (by rw [HF.out]; exact O9.out), B9⟩
          case measure => simp [intOf]; omega
        · obtain rfl : i' = j := by omega
          have e : ls.take i' = ls := by rw [← hk.out, List.take_length]
          rw [e] at HM HO
          obtain rfl : m = T := by rw [← HM.out, hT.out]
          have HAt := Lib.hid (Shape.At.own (S := shB) HO.out (by rw [← sumL_flat, hT.out]))
          clear e hlt hi'
          go_wp2_with fail
          go_ret
          exact ⟨xa, xc, rfl, HAt.out, pstep HW.out HB.out⟩
end Go.Proofs.YtomgifdnnfbpnaaDoor
