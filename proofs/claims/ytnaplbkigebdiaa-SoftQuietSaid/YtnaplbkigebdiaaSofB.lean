/- Package soft: how far a run has come, in memory; the walks of raise and anyPending. -/
import Derived.Test.YtnaplbkigebdiaaSofA
import Derived.RegionTactic
import Derived.Deep.MidRow
import Derived.Deep.LoopGhost
namespace Go.Proofs.Ytnaplbkigebdiaa
open Go.RowKit

/-- A run's progress as a row of ten cells. -/
def pgRow (f : Nat → Bool) (l e : Value) : Array Value := #[.bool (f 0), .bool (f 1), .bool (f 2), .bool (f 3), .bool (f 4), .bool (f 5), .bool (f 6), .bool (f 7), l, e]
theorem eight8 {c : Nat} (h : c < 8) : c = 0 ∨ c = 1 ∨ c = 2 ∨ c = 3 ∨ c = 4 ∨ c = 5 ∨ c = 6 ∨ c = 7 := by omega
theorem pg_get (f : Nat → Bool) (l e : Value) {s : Nat} (h : s < 8) : (pgRow f l e)[s]? = some (.bool (f s)) := by
  rcases eight8 h with rfl | rfl | rfl | rfl | rfl | rfl | rfl | rfl <;> rfl
theorem pg_set (f : Nat → Bool) (l e : Value) {s : Nat} (h : s < 8) (v : Bool) : (pgRow f l e).setIfInBounds s (.bool v) = pgRow (upS f s v) l e := by
  rcases eight8 h with rfl | rfl | rfl | rfl | rfl | rfl | rfl | rfl <;> rfl
theorem pg_set8 (f : Nat → Bool) (l e v : Value) : (pgRow f l e).setIfInBounds 8 v = pgRow f v e := rfl
theorem pg_set9 (f : Nat → Bool) (l e v : Value) : (pgRow f l e).setIfInBounds 9 v = pgRow f l v := rfl
/-- How far a run has come: w0 is the world at its start, B the block. -/
structure Pg (w0 w : World) (B : Nat) (rs : List RaT) (f : Nat → Bool) (d : Nat) (ran : List Nat) (la : Option Addr) (lc : Nat) (ea : Option Addr) (ec : Nat) : Prop where
  b : Below w0.heap.size w0 w
  lt : w0.heap.size ≤ B
  c : w.heap[B]? = some (.cells (pgRow f (.slice la (rs.length - d) lc) (.slice ea ran.length ec)) 47 (0, 0))
  l : shR.At w0 la lc (rs.drop d)
  cap : rs.length - d ≤ lc
  o : w.ownsRow w0.heap.size 3 1 (.slice ea ran.length ec) ran.length (shI.flat (natL ran))
section
variable {w0 w w' : World} {B d lc ec : Nat} {rs : List RaT} {f : Nat → Bool} {ran : List Nat} {la ea : Option Addr}
theorem Pg.step (h : Pg w0 w B rs f d ran la lc ea ec) (hb : Below w.heap.size w w') : Pg w0 w' B rs f d ran la lc ea ec :=
  ⟨pstep h.b hb, h.lt, heap_step h.c hb, h.l, h.cap, own_step h.o hb⟩
theorem Pg.cells (h : Pg w0 w B rs f d ran la lc ea ec) : (∀ s, s < 8 → w.cell? ⟨B, s, none⟩ = some (.bool (f s))) ∧ w.cell? ⟨B, 8, none⟩ = some (.slice la (rs.length - d) lc) ∧ w.cell? ⟨B, 9, none⟩ = some (.slice ea ran.length ec) ∧ (∀ i, w.frozen? ⟨B, i, none⟩ = false) ∧ B < w.heap.size :=
  ⟨fun s hs => by rw [cell_of_row w B s _ _ _ h.c]; exact pg_get _ _ _ hs, by rw [cell_of_row w B 8 _ _ _ h.c]; rfl, by rw [cell_of_row w B 9 _ _ _ h.c]; rfl, fun i => frozen_of_row w B i _ _ h.c, heap_lt h.c⟩
theorem Pg.ne (h : Pg w0 w B rs f d ran la lc ea ec) : ∀ g, (Value.slice ea ran.length ec).ownBlock = some g → g ≠ B := fun g hg => own_ne h.o h.c (by decide) g hg
theorem Pg.setB (h : Pg w0 w B rs f d ran la lc ea ec) {s : Nat} (hs : s < 8) (v : Bool) : Pg w0 (w.setCell ⟨B, s, none⟩ (.bool v)) B rs (upS f s v) d ran la lc ea ec :=
  ⟨h.b.setCell h.lt _, h.lt, by rw [← pg_set f _ _ hs]; exact heap_setCell_same w B s _ _ _ h.c, h.l, h.cap, own_set h.o h.ne _⟩
theorem drop_next {l : List RaT} {d : Nat} {r : RaT} (hr : l[d]? = some r) : l.drop d = r :: l.drop (d + 1) := by
  have hlt := (List.getElem?_eq_some_iff.1 hr).1
  rw [List.drop_eq_getElem_cons hlt]
  congr 1
  rw [List.getElem?_eq_getElem hlt] at hr
  exact Option.some.inj hr
/-- A slice without its first. -/
theorem at_tail {w : World} {b off cap : Nat} {r : RaT} {l : List RaT} (h : shR.At w (some ⟨b, off, none⟩) cap (r :: l)) (c' : Nat) : shR.At w (some ⟨b, off + 2, none⟩) c' l :=
  ⟨fun e => (by cases e), fun _ => by
    obtain ⟨b', off', e, hb, hl⟩ := h.2 (by simp)
    cases e
    refine ⟨b, off + 2, rfl, hb, fun k hk => ?_⟩
    have hs : shR.size = 2 := rfl
    rw [hs] at hk hl
    have := hl (2 + k) (by simp only [List.length_cons]; omega)
    rw [Nat.add_assoc, this]
    show ([.int .i64 r.at_, .int .i64 r.soft] ++ shR.flat l)[2 + k]? = _
    rw [List.getElem?_append_right (by simp)]
    simp⟩
theorem at_none {w : World} (a : Addr) (c : Nat) : shR.At w (some a) c [] := ⟨fun e => (by cases e), fun h => by simp at h⟩
theorem Pg.setL (h : Pg w0 w B rs f d ran la lc ea ec) {la' : Option Addr} {lc' d' : Nat} (hl : shR.At w0 la' lc' (rs.drop d')) (hc : rs.length - d' ≤ lc') {n : Nat} (hn : n = rs.length - d') : Pg w0 (w.setCell ⟨B, 8, none⟩ (.slice la' n lc')) B rs f d' ran la' lc' ea ec :=
  ⟨h.b.setCell h.lt _, h.lt, by rw [← hn, ← pg_set8 f (.slice la (rs.length - d) lc)]; exact heap_setCell_same w B 8 _ _ _ h.c, hl, hc, own_set h.o h.ne _⟩
theorem grown_refl (w : World) (r : Option Nat) : w.grownBy w r := ⟨rfl, rfl, rfl, Nat.le_refl _, fun _ _ _ => rfl⟩
theorem grown_set {w wx : World} {B : Nat} (h : w.grownBy wx (some B)) (k : Nat) (v : Value) : w.grownBy (wx.setCell ⟨B, k, none⟩ v) (some B) :=
  ⟨h.os, h.tape, h.output, Nat.le_trans h.size (by simp), fun j hj hn => (Below.heap_setCell _ _ _ _ (fun e => hn (by simp only at e; rw [e]))).trans (h.block j hj hn)⟩
end
/-- What raise makes of it. -/
def RaiseOut (w0 w : World) (B : Nat) (rs : List RaT) (f : Nat → Bool) (ran : List Nat) (ea : Option Addr) (ec : Nat) (e : Ending) (w' : World) : Prop :=
  e = .returned (.tuple #[]) ∧ ∃ la' lc' d', Pg w0 w' B rs (fun s => f s || rJ rs ran.length s) d' ran la' lc' ea ec ∧ CutJ rs ran.length d' ∧ w.grownBy w' (some B)
set_option maxHeartbeats 2000000 in
set_option maxRecDepth 100000 in
theorem raise_N {w0 w : World} {B d lc ec : Nat} {rs : List RaT} {f : Nat → Bool} {ran : List Nat} {la ea : Option Addr} (HP : Hid (Pg w0 w B rs f d ran la lc ea ec)) (HU : Hid (RaUp 0 rs)) (HC : Hid (CutJ rs ((ran.length : Int) - 1) d)) :
    Calls Try.prog 29 #[.pointer (some ⟨B, 0, none⟩)] w (RaiseOut w0 w B rs f ran ea ec) := by
  go_enter Try.func29, Try.ntmps29
  go_wp2_with fail
  go_loopg [] (rs.length - d) (fun q wr => ∃ (d : Nat) (la : Option Addr) (lc : Nat) (g : Nat → Bool), Hid (rs.length - d ≤ q) ∧ Hid (Pg w0 wr B rs g d ran la lc ea ec) ∧ Hid (MidJ rs ran.length f d g) ∧ Hid (w.grownBy wr (some B)))
  case atStart => exact ⟨d, la, lc, f, Lib.hid (Nat.le_refl _), HP, Lib.hid (mid_start f HC.out), Lib.hid (grown_refl _ _)⟩
  case round =>
    clear HP HC
    obtain ⟨d, la, lc, g, HQ, HP, HM, HG⟩ := hrel
    obtain ⟨_, c8, c9, fr, hB⟩ := HP.out.cells
    have hcap := HP.out.cap
    obtain ⟨m, hm⟩ : ∃ m, rs.length - d = m := ⟨_, rfl⟩
    rw [hm] at c8 hcap
    have HMM := Lib.hid hm
    cases hr : rs[d]? with
    | none =>
      have hle := List.getElem?_eq_none_iff.1 hr
      obtain rfl : m = 0 := by omega
      have F := Lib.hid (mid_end HM.out fun j r hj hx => by have := (List.getElem?_eq_some_iff.1 hx).1; omega)
      clear hr hm hle
      go_wp2_with fail
      go_quiet (fail)
      go_wp2_with fail
      go_end0
      exact ⟨rfl, la, lc, d, F.out.2 ▸ (HP.out.step (below_drewN (Below.refl _ _) _)), F.out.1, grown_below HG.out (below_drewN (Below.refl _ _) _)⟩
    | some r =>
      have hlt := (List.getElem?_eq_some_iff.1 hr).1
      have hL := HP.out.l
      rw [drop_next hr] at hL
      obtain ⟨b, off, rfl, hb, e0, e1⟩ := at_ra (k := 0) hL rfl
      rw [Nat.zero_mul, Nat.add_zero] at e0 e1
      have g0 := (HP.out.b.cell (p := ⟨b, off, none⟩) hb).trans e0
      have g1 := (HP.out.b.cell (p := ⟨b, off + 1, none⟩) hb).trans e1
      have hbr : b < wr.heap.size := Nat.lt_of_lt_of_le hb HP.out.b.size
      have hm0 : (0 : Int) < (m : Int) := by omega
      have hmd : decide (0 < m) = true := decide_eq_true (by omega)
      have HL := Lib.hid hL
      have HR := Lib.hid hr
      have HO := Lib.hid (HU.out d r hr)
      obtain ⟨x, y⟩ := r
      simp only at g0 g1
      have hmm2 := hm
      clear e0 e1 hr hL hm hlt
      by_cases hx : x ≤ (ran.length : Int)
      · have hxd : decide (x ≤ (ran.length : Int)) = true := decide_eq_true hx
        obtain ⟨s, rfl⟩ : ∃ s : Nat, y = s := ⟨y.toNat, by have := HO.out.1; simp only at this; omega⟩
        have hs8 : s < 8 := by have := HO.out.1; simp only at this; omega
        have hs8i : (s : Int) < 8 := by omega
        have MN := Lib.hid (mid_step HM.out HR.out hx rfl)
        have cs := (HP.out.cells).1 s hs8
        have hlen : m - 1 = rs.length - (d + 1) := by rw [← hmm2]; omega
        have PD := Lib.hid (fun q => (HP.out.step (below_drewN (Below.refl wr.heap.size wr) q)).setB hs8 true)
        have GD := Lib.hid (fun q v => grown_set (grown_set (grown_below HG.out ((below_drewN (Below.refl wr.heap.size wr) q).mono HG.out.size)) s (.bool true)) 8 v)
        have hq : rs.length - (d + 1) ≤ rs.length - d - 1 := by omega
        have HQ2 := Lib.hid hq
        have HE := Lib.hid hlen
        clear hq hlen
        go_wp2_with fail
        go_quiet (fail)
        go_wp2_with fail
        go_region
        by_cases hc1 : lc = 1
        · subst hc1
          have hm1 : m = 1 := by omega
          have hnil : rs.drop (d + 1) = [] := List.drop_eq_nil_iff.2 (by have := HE.out; omega)
          have HN := Lib.hid hnil
          have HZ : Hid (0 = rs.length - (d + 1)) := Lib.hid (by rw [← HE.out, hm1])
          clear hnil
          go_wp2_with fail
          go_roundg (rs.length - (d + 1))
          case measure => have := HQ.out; have := HMM.out; omega
          case rel => exact ⟨d + 1, _, 0, _, Lib.hid (Nat.le_refl _), Lib.hid ((PD.out _).setL (by rw [HN.out]; exact at_none _ _) (by rw [← HZ.out]; exact Nat.le_refl _) HZ.out), MN, Lib.hid (GD.out _ _)⟩
        · have hc2 : decide (1 = lc) = false := decide_eq_false (fun e => hc1 e.symm)
          have hc3 : 1 ≤ m := by omega
          go_wp2_with fail
          go_roundg (rs.length - (d + 1))
          case measure => have := HQ.out; have := HMM.out; omega
          case rel => exact ⟨d + 1, _, lc - 1, _, Lib.hid (Nat.le_refl _), Lib.hid ((PD.out _).setL (at_tail HL.out _) (by rw [← HE.out]; omega) HE.out), MN, Lib.hid (GD.out _ _)⟩
      · have hxd : decide (x ≤ (ran.length : Int)) = false := decide_eq_false hx
        go_wp2_with fail
        go_quiet (fail)
        go_wp2_with fail
        go_end0
        have F := mid_end HM.out (hi_all HU.out fun r hr => by rw [HR.out] at hr; cases hr; simp only; omega)
        exact ⟨rfl, _, lc, d, F.2 ▸ (HP.out.step (below_drewN (Below.refl _ _) _)), F.1, grown_below HG.out (below_drewN (Below.refl _ _) _)⟩
end Go.Proofs.Ytnaplbkigebdiaa
