/- The walks of slices.Clone at lines, and of line.perform. -/
import Derived.Test.YtmldedkmmhnihaaOne
import Derived.Test.YtmldedkmmhnihaaLinB
import Derived.OwnWalk
import Derived.Lib.SliceRun
namespace Go.Proofs.Ytmldedkmmhnihaa
open Go.RowKit

set_option maxHeartbeats 4000000 in
set_option maxRecDepth 100000 in
theorem clone_some (b off cap : Nat) (l : List PinT) (w : World) (hb : b < w.heap.size) (h24 : l.length ≤ 24) (hl0 : 0 < l.length) (HL : Hid (LiesP w b off l)) :
    Calls Try.prog 23 #[.slice (some ⟨b, off, none⟩) l.length cap] w fun e w' => ∃ h cap', e = .returned (.slice (some ⟨h, 0, none⟩) l.length cap') ∧ Runs w h l [] (.slice none 0 0) w' := by
  obtain ⟨i0, hi, hz0, hz1, hz2⟩ := info_parts info_pin
  have qn : ∀ (w : World) (a : Option Addr) (n c n' c' : Nat), (binOp .eql 22 (.slice a n c) (.slice none n' c')).run Try.prog w = .ok (.bool a.isNone) w := fun w a n c n' c' => Lib.run_eql_slice_nil w _ _ a n c n' c' Try.underlying22
  go_enter Try.func23, Try.ntmps23
  go_wp2_with (first
    | (at_builtin; refine wpList_append_lies _ rfl _ _ 22 rfl w.heap.size 33 i0 _ 7 24 Try.underlying22 hi hz0 hz1 hz2 rfl (by decide) (.slice (some ⟨w.heap.size, 0, none⟩) 0 0) 0 [] rfl ?c0 ⟨b, off, none⟩ l.length cap (flatP l) rfl (flatP_len l) ?c1 ?c2 hl0 ?c3 ?c4 ?c5 (w.heap.size + 1) ?c6 ?_)
    | fail)
  case c0 => exact ⟨rfl, Or.inr ⟨w.heap.size, 0, #[], rfl, Nat.le_refl _, heap_alloc_new w _, Nat.le_refl _, Nat.zero_le _, rfl, rfl⟩⟩
  case c1 =>
    intro j u hj
    have hjl : j < (flatP l).length := (List.getElem?_eq_some_iff.1 hj).1
    rw [flatP_len] at hjl
    have hat := flatP_at l (j / 7) (j % 7) (by omega) (by omega)
    have hcell := HL.out (j / 7) (by omega) (j % 7) (by omega)
    rw [show j / 7 * 7 + j % 7 = j by omega] at hat
    rw [hj] at hat
    rw [Go.WideShapes.add_plain, World.cell?_alloc_past _ _ _ (show (⟨b, off + j, none⟩ : Addr).block < w.heap.size from hb)]
    rw [show off + j = off + j / 7 * 7 + j % 7 by omega, hcell]
    exact hat.symm
  case c2 =>
    intro u hu
    simp only [flatP, List.mem_flatMap] at hu
    obtain ⟨p, _, hp⟩ := hu
    simp at hp
    rcases hp with rfl | rfl | rfl | rfl | rfl | rfl | rfl <;> rfl
  case c3 => unfold maxLen; omega
  case c4 => omega
  case c5 => simp
  case c6 => simp
  intro h cap1 w1 hown hgrow hor hlt
  have hh : w.heap.size ≤ h := by first | omega | (rcases hor with hor | hor <;> first | omega | (simp [Value.ownBlock] at hor; omega))
  have R0 : Runs w h l [] (.slice none 0 0) w1 := by
    refine ⟨((Below.refl _ _).alloc (Nat.le_refl _) _).grown hgrow (by simp) (fun k hk => by simp [Value.ownBlock] at hk; omega), ?_, hh, World.ownsRow_nil _ _ _ _, by simp [Value.ownBlock]⟩
    obtain ⟨_, h2⟩ := hown
    rcases h2 with ⟨h2, _⟩ | ⟨g, cp, cur, e, _, hc, _, _, hsz, ht⟩
    · cases h2
    · simp only [Value.slice.injEq, Option.some.injEq, Addr.mk.injEq, and_true, true_and] at e
      obtain ⟨rfl, rfl⟩ := e
      refine ⟨cur, hc, fun j hj i hi => ?_⟩
      rw [← flatP_at l j i hj hi, ← ht, List.getElem?_take_of_lt (by omega), Array.getElem?_toList]
  clear hown hgrow hor hlt
  go_wp2_with fail
  go_ret
  exact ⟨h, cap1, by simp, R0⟩
theorem clone_nil (w : World) : Calls Try.prog 23 #[.slice none 0 0] w fun e w' => e = .returned (.slice none 0 0) ∧ Below w.heap.size w w' := by
  have qn : ∀ (w : World) (a : Option Addr) (n c n' c' : Nat), (binOp .eql 22 (.slice a n c) (.slice none n' c')).run Try.prog w = .ok (.bool a.isNone) w := fun w a n c n' c' => Lib.run_eql_slice_nil w _ _ a n c n' c' Try.underlying22
  go_enter Try.func23, Try.ntmps23
  go_wp2_with fail
  go_ret
  exact ⟨rfl, Below.refl _ _⟩
set_option maxHeartbeats 4000000 in
set_option maxRecDepth 100000 in
theorem clone_empty (ad : Addr) (cap : Nat) (w : World) :
    Calls Try.prog 23 #[.slice (some ad) 0 cap] w fun e w' => e = .returned (.slice (some ⟨w.heap.size, 0, none⟩) 0 0) ∧ Below w.heap.size w w' := by
  obtain ⟨i0, hi, hz0, hz1, hz2⟩ := info_parts info_pin
  have qn : ∀ (w : World) (a : Option Addr) (n c n' c' : Nat), (binOp .eql 22 (.slice a n c) (.slice none n' c')).run Try.prog w = .ok (.bool a.isNone) w := fun w a n c n' c' => Lib.run_eql_slice_nil w _ _ a n c n' c' Try.underlying22
  go_enter Try.func23, Try.ntmps23
  go_wp2_with (first
    | (at_builtin; refine wpList_append_fits _ rfl _ _ 22 rfl w.heap.size 33 i0 7 Try.underlying22 hi hz1 w.heap.size 0 0 [] rfl ?c0 ad 0 cap [] rfl rfl ?c1 ?c2 (Nat.le_refl _) ?_)
    | fail)
  case c0 => exact ⟨rfl, Or.inr ⟨w.heap.size, 0, #[], rfl, Nat.le_refl _, heap_alloc_new w _, Nat.le_refl _, Nat.zero_le _, rfl, rfl⟩⟩
  case c1 => intro j u hj; simp at hj
  case c2 => intro u hu; simp at hu
  intro w1 _ hgrow
  have B1 : Below w.heap.size w w1 := ((Below.refl _ _).alloc (Nat.le_refl _) _).grown hgrow (by simp) (fun k hk => by simp at hk; omega)
  clear hgrow
  go_wp2_with fail
  go_ret
  exact ⟨rfl, B1⟩
theorem sendLevel_L (p : PinT) (w : World) (q : PinT) (t : Bool) (H : Hid (p.lev = (q, t))) (hl : p.level = true) : Calls Try.prog 40 #[.agg #[.int .i64 p.core, .int .i64 p.vec, .bool true, .bool p.masked, .bool p.up, .bool p.kept, .bool p.sent]] w fun e w' => e = .returned (.tuple #[.agg #[.int .i64 q.core, .int .i64 q.vec, .bool q.level, .bool q.masked, .bool q.up, .bool q.kept, .bool q.sent], .bool t]) ∧ Below w.heap.size w w' := by
  have := sendLevel_R p w q t H
  rw [hl] at this
  exact this
theorem sendEdge_L (p : PinT) (r : Bool) (w : World) (q : PinT) (t : Bool) (H : Hid (p.edg r = (q, t))) (hl : p.level = false) : Calls Try.prog 41 #[.agg #[.int .i64 p.core, .int .i64 p.vec, .bool false, .bool p.masked, .bool p.up, .bool p.kept, .bool p.sent], .bool r] w fun e w' => e = .returned (.tuple #[.agg #[.int .i64 q.core, .int .i64 q.vec, .bool q.level, .bool q.masked, .bool q.up, .bool q.kept, .bool q.sent], .bool t]) ∧ Below w.heap.size w w' := by
  have := sendEdge_R p r w q t H
  rw [hl] at this
  exact this
set_option maxHeartbeats 4000000 in
set_option maxRecDepth 100000 in
theorem perform_R (W : World) (h cap q : Nat) (out : List PinT) (ss : List SentT) (vs : Value) (x : Int) (p p2 : PinT) (t : Bool) (w : World) (R0 : Runs W h out ss vs w) (hx1 : 1 ≤ x) (hx5 : x ≤ 5) (hq : q < out.length) (hls : ss.length ≤ 8796093022208)
    (HP : Hid (out.getD q pin0 = p)) (HPT : Hid (pinStep p x = (p2, t))) :
    Calls Try.prog 25 #[.slice (some ⟨h, 0, none⟩) out.length cap, .agg #[.int .i64 x, .int .i64 (q : Int)], vs] w fun e w' => ∃ vs', e = .returned vs' ∧ Runs W h (out.set q p2) (if t = true then ss ++ [⟨q, p2.core, p2.vec⟩] else ss) vs' w' := by
  obtain ⟨i1, hj, hy0, hy1, hy2⟩ := info_parts info_sent
  have hh := R0.2.1.lt
  have hW := R0.2.2.1
  obtain ⟨p1, hp1⟩ : ∃ p1, p.move x = p1 := ⟨_, rfl⟩
  obtain ⟨r, hr⟩ : ∃ r, p.rose x = r := ⟨_, rfl⟩
  have HLV : Hid (p1.level = true → p1.lev = (p2, t)) := fun e => by rw [← HPT.out, ← hp1, step_lev (by rw [hp1]; exact e)]
  have HED : Hid (p1.level = false → p1.edg r = (p2, t)) := fun e => by rw [← HPT.out, ← hp1, ← hr, step_edg hx1 hx5 (by rw [hp1]; exact e)]
  have R1 := Runs.alloc R0 (.cells #[.int .i64 x, .int .i64 (q : Int)] 41)
  have M1 : Mid0 W h out ss vs w.heap.size x q (w.alloc (.cells #[.int .i64 x, .int .i64 (q : Int)] 41)) := ⟨R1, heap_alloc_new w _, hh, fun g hg => Runs.own R0 g hg⟩
  have M1d := M1.drew
  have HQ : Hid (q < out.length ∧ out.getD q pin0 = p) := ⟨hq, HP.out⟩
  clear R0 R1
  go_enter Try.func25, Try.ntmps25
  go_upto_region 1 with fail
  go_cut [7, 8] from 9 (fun s7 s8 wx => ∃ g : Nat, s7 = .pointer (some ⟨g, 0, none⟩) ∧ s8 = .bool r ∧ Mid0 W h out ss vs w.heap.size x q wx ∧ w.heap.size < g ∧ g < wx.heap.size ∧ (∀ i, wx.frozen? ⟨g, i, none⟩ = false) ∧ wx.cell? ⟨g, 0, none⟩ = some (.int .i64 p1.core) ∧ wx.cell? ⟨g, 1, none⟩ = some (.int .i64 p1.vec) ∧ wx.cell? ⟨g, 2, none⟩ = some (.bool p1.level) ∧ wx.cell? ⟨g, 3, none⟩ = some (.bool p1.masked) ∧ wx.cell? ⟨g, 4, none⟩ = some (.bool p1.up) ∧ wx.cell? ⟨g, 5, none⟩ = some (.bool p1.kept) ∧ wx.cell? ⟨g, 6, none⟩ = some (.bool p1.sent))
  case first =>
    go_region_held3 (fun w' => Mid0 W h out ss vs w.heap.size x q w' ∧ w'.cell? ⟨w.heap.size, 0, none⟩ = some (.int .i64 x) ∧ w'.cell? ⟨w.heap.size, 1, none⟩ = some (.int .i64 (q : Int)) ∧ w'.cell? ⟨h, q * 7, none⟩ = some (.int .i64 p.core) ∧ w'.cell? ⟨h, q * 7 + 1, none⟩ = some (.int .i64 p.vec) ∧ w'.cell? ⟨h, q * 7 + 2, none⟩ = some (.bool p.level) ∧ w'.cell? ⟨h, q * 7 + 3, none⟩ = some (.bool p.masked) ∧ w'.cell? ⟨h, q * 7 + 4, none⟩ = some (.bool p.up) ∧ w'.cell? ⟨h, q * 7 + 5, none⟩ = some (.bool p.kept) ∧ w'.cell? ⟨h, q * 7 + 6, none⟩ = some (.bool p.sent))
      ((refine Mid0.all HQ ?_; repeat (first | (with_reducible assumption) | (with_reducible refine Mid0.drew ?_) | (with_reducible refine Mid0.alloc ?_ _) | ((with_reducible refine Mid0.set ?_ ?_ _ _); rotate_left; focus (first | omega | (simp; done) | (simp; omega))))))
      (first
        | (go_at_call 39; ((with_reducible refine (change_R p x _ hx1 hx5 p1 r hp1 hr).mono ?_); rintro e w2 ⟨rfl, hb2⟩; (first | (have TT := Mid0.step (by with_reducible assumption) hb2) | (have TT := Mid0.stepS (by with_reducible assumption) hb2)); (try (have G3 := bat' hb2 (w.heap.size + 1) (by first | omega | (simp; done) | (simp; omega)))); have G2 := bat' hb2 w.heap.size (by first | omega | (simp; done) | (simp; omega)); have LG := G2.2.2; (try (have LG3 := G3.2.2)); clear G2 hb2)))
    all_goals go_wp2_with fail
    all_goals go_meet
    all_goals
      refine ⟨_, rfl, rfl, ?_, ?_, ?_, ?_, ?_, ?_, ?_, ?_, ?_, ?_, ?_⟩
      · repeat (first | (with_reducible assumption) | (with_reducible refine Mid0.drew ?_) | (with_reducible refine Mid0.alloc ?_ _) | ((with_reducible refine Mid0.set ?_ ?_ _ _); rotate_left; focus (first | omega | (simp; done) | (simp; omega))))
    all_goals first
      | omega
      | (simp; omega)
      | go_simp
      | (intro i; go_simp)
  case rest =>
    obtain ⟨g, rfl, rfl, MM, hg1, hg2, gf, g0, g1, g2, g3, g4, g5, g6⟩ := hcut
    clear M1 M1d
    obtain ⟨lv, hlv⟩ : ∃ lv, p1.level = lv := ⟨_, rfl⟩
    cases lv
    · have HE := Lib.hid (HED.out hlv)
      rw [hlv] at g2
      go_upto_region 6 with (first
        | (go_at_call 41; ((with_reducible refine (sendEdge_L p1 r _ p2 t HE hlv).mono ?_); rintro e w2 ⟨rfl, hb2⟩; have TT := MM.step hb2; have G3 := bat' hb2 g (by first | omega | (simp; done) | (simp; omega)); have LG3 := G3.2.2; clear hb2))
        | fail)
      have MX : Mid0 W h out ss vs w.heap.size x q (((((((w2.setCell ⟨g, 0, none⟩ (.int .i64 p2.core)).setCell ⟨g, 1, none⟩ (.int .i64 p2.vec)).setCell ⟨g, 2, none⟩ (.bool p2.level)).setCell ⟨g, 3, none⟩ (.bool p2.masked)).setCell ⟨g, 4, none⟩ (.bool p2.up)).setCell ⟨g, 5, none⟩ (.bool p2.kept)).setCell ⟨g, 6, none⟩ (.bool p2.sent)) := by
        repeat (first | (with_reducible assumption) | (with_reducible refine Mid0.drew ?_) | (with_reducible refine Mid0.alloc ?_ _) | ((with_reducible refine Mid0.set ?_ ?_ _ _); rotate_left; focus (first | omega | (simp; done) | (simp; omega))))
      have CX : g < (((((((w2.setCell ⟨g, 0, none⟩ (.int .i64 p2.core)).setCell ⟨g, 1, none⟩ (.int .i64 p2.vec)).setCell ⟨g, 2, none⟩ (.bool p2.level)).setCell ⟨g, 3, none⟩ (.bool p2.masked)).setCell ⟨g, 4, none⟩ (.bool p2.up)).setCell ⟨g, 5, none⟩ (.bool p2.kept)).setCell ⟨g, 6, none⟩ (.bool p2.sent)).heap.size ∧ (((((((w2.setCell ⟨g, 0, none⟩ (.int .i64 p2.core)).setCell ⟨g, 1, none⟩ (.int .i64 p2.vec)).setCell ⟨g, 2, none⟩ (.bool p2.level)).setCell ⟨g, 3, none⟩ (.bool p2.masked)).setCell ⟨g, 4, none⟩ (.bool p2.up)).setCell ⟨g, 5, none⟩ (.bool p2.kept)).setCell ⟨g, 6, none⟩ (.bool p2.sent)).cell? ⟨g, 0, none⟩ = some (.int .i64 p2.core) ∧ (((((((w2.setCell ⟨g, 0, none⟩ (.int .i64 p2.core)).setCell ⟨g, 1, none⟩ (.int .i64 p2.vec)).setCell ⟨g, 2, none⟩ (.bool p2.level)).setCell ⟨g, 3, none⟩ (.bool p2.masked)).setCell ⟨g, 4, none⟩ (.bool p2.up)).setCell ⟨g, 5, none⟩ (.bool p2.kept)).setCell ⟨g, 6, none⟩ (.bool p2.sent)).cell? ⟨g, 1, none⟩ = some (.int .i64 p2.vec) ∧ (((((((w2.setCell ⟨g, 0, none⟩ (.int .i64 p2.core)).setCell ⟨g, 1, none⟩ (.int .i64 p2.vec)).setCell ⟨g, 2, none⟩ (.bool p2.level)).setCell ⟨g, 3, none⟩ (.bool p2.masked)).setCell ⟨g, 4, none⟩ (.bool p2.up)).setCell ⟨g, 5, none⟩ (.bool p2.kept)).setCell ⟨g, 6, none⟩ (.bool p2.sent)).cell? ⟨g, 2, none⟩ = some (.bool p2.level) ∧ (((((((w2.setCell ⟨g, 0, none⟩ (.int .i64 p2.core)).setCell ⟨g, 1, none⟩ (.int .i64 p2.vec)).setCell ⟨g, 2, none⟩ (.bool p2.level)).setCell ⟨g, 3, none⟩ (.bool p2.masked)).setCell ⟨g, 4, none⟩ (.bool p2.up)).setCell ⟨g, 5, none⟩ (.bool p2.kept)).setCell ⟨g, 6, none⟩ (.bool p2.sent)).cell? ⟨g, 3, none⟩ = some (.bool p2.masked) ∧ (((((((w2.setCell ⟨g, 0, none⟩ (.int .i64 p2.core)).setCell ⟨g, 1, none⟩ (.int .i64 p2.vec)).setCell ⟨g, 2, none⟩ (.bool p2.level)).setCell ⟨g, 3, none⟩ (.bool p2.masked)).setCell ⟨g, 4, none⟩ (.bool p2.up)).setCell ⟨g, 5, none⟩ (.bool p2.kept)).setCell ⟨g, 6, none⟩ (.bool p2.sent)).cell? ⟨g, 4, none⟩ = some (.bool p2.up) ∧ (((((((w2.setCell ⟨g, 0, none⟩ (.int .i64 p2.core)).setCell ⟨g, 1, none⟩ (.int .i64 p2.vec)).setCell ⟨g, 2, none⟩ (.bool p2.level)).setCell ⟨g, 3, none⟩ (.bool p2.masked)).setCell ⟨g, 4, none⟩ (.bool p2.up)).setCell ⟨g, 5, none⟩ (.bool p2.kept)).setCell ⟨g, 6, none⟩ (.bool p2.sent)).cell? ⟨g, 5, none⟩ = some (.bool p2.kept) ∧ (((((((w2.setCell ⟨g, 0, none⟩ (.int .i64 p2.core)).setCell ⟨g, 1, none⟩ (.int .i64 p2.vec)).setCell ⟨g, 2, none⟩ (.bool p2.level)).setCell ⟨g, 3, none⟩ (.bool p2.masked)).setCell ⟨g, 4, none⟩ (.bool p2.up)).setCell ⟨g, 5, none⟩ (.bool p2.kept)).setCell ⟨g, 6, none⟩ (.bool p2.sent)).cell? ⟨g, 6, none⟩ = some (.bool p2.sent) := by
        refine ⟨?_, ?_, ?_, ?_, ?_, ?_, ?_, ?_⟩
        all_goals first
          | (simp; done)
          | (simp; omega)
          | go_simp
      generalize ((((((w2.setCell ⟨g, 0, none⟩ (.int .i64 p2.core)).setCell ⟨g, 1, none⟩ (.int .i64 p2.vec)).setCell ⟨g, 2, none⟩ (.bool p2.level)).setCell ⟨g, 3, none⟩ (.bool p2.masked)).setCell ⟨g, 4, none⟩ (.bool p2.up)).setCell ⟨g, 5, none⟩ (.bool p2.kept)).setCell ⟨g, 6, none⟩ (.bool p2.sent) = wy at MX CX ⊢
      obtain ⟨hg3, y0, y1, y2, y3, y4, y5, y6⟩ := CX
      clear MM TT G3 LG3 g0 g1 g2 g3 g4 g5 g6 gf hg2 hlv
      obtain ⟨o0, o1, r0, r1, r2, r3, r4, r5, r6⟩ := (Mid0.all HQ MX).2
      have f0 := MX.1.2.1.frozen (q * 7)
      have f1 := MX.1.2.1.frozen (q * 7 + 1)
      have f2 := MX.1.2.1.frozen (q * 7 + 2)
      have f3 := MX.1.2.1.frozen (q * 7 + 3)
      have f4 := MX.1.2.1.frozen (q * 7 + 4)
      have f5 := MX.1.2.1.frozen (q * 7 + 5)
      have f6 := MX.1.2.1.frozen (q * 7 + 6)
      have hhc := MX.1.2.1.lt
      have RP := MX.1.put p2 hq
      have hne1 : ¬ (h = w.heap.size) := by omega
      have hne2 : ¬ (h = g) := by omega
      have RUN := Lib.hid MX.1
      clear MX
      cases t
      · go_wp2_with fail
        go_ret
        refine ⟨vs, rfl, ?_⟩
        with_reducible exact RP
      · go_wp2_with (first
          | (at_builtin; refine wpList_append_one _ rfl _ _ 24 rfl W.heap.size 36 i1 _ 3 24 Try.underlying24 hj hy0 hy1 hy2 rfl (by decide) _ _ _ rfl (RP.2.2.2.1.alloc _) ⟨_, 0, none⟩ 1 [.int .i64 (q : Int), .int .i64 p2.core, .int .i64 p2.vec] rfl rfl ?c1 ?c2 ?c3 ?c4 ?c5 _ rfl ?_)
          | fail)
        case c1 =>
          intro j u hj
          rw [Go.WideShapes.add_plain]
          have h3 : j = 0 ∨ j = 1 ∨ j = 2 := by
            have := (List.getElem?_eq_some_iff.1 hj).1
            simp at this
            omega
          rcases h3 with rfl | rfl | rfl <;> simp at hj <;> subst hj <;> go_simp
        case c2 => first | exact ⟨rfl, rfl, rfl⟩ | (intro u hu; simp at hu; rcases hu with rfl | rfl | rfl <;> rfl)
        case c3 => unfold maxLen; omega
        case c4 => exact next_one (by omega)
        case c5 => have := RUN.out.1.size; first | omega | (simp; omega)
        · intro g' cap' w4 hown hgrow hor _
          have RM := RP.more ⟨q, p2.core, p2.vec⟩ hown hgrow (by simpa using hor)
          clear hown hgrow hor RP
          go_wp2_with fail
          go_ret
          refine ⟨.slice (some ⟨g', 0, none⟩) (ss.length + 1) cap', rfl, ?_⟩
          with_reducible exact RM
    · have HE := Lib.hid (HLV.out hlv)
      rw [hlv] at g2
      go_upto_region 6 with (first
        | (go_at_call 40; ((with_reducible refine (sendLevel_L p1 _ p2 t HE hlv).mono ?_); rintro e w2 ⟨rfl, hb2⟩; have TT := MM.step hb2; have G3 := bat' hb2 g (by first | omega | (simp; done) | (simp; omega)); have LG3 := G3.2.2; clear hb2))
        | fail)
      have MX : Mid0 W h out ss vs w.heap.size x q (((((((w2.setCell ⟨g, 0, none⟩ (.int .i64 p2.core)).setCell ⟨g, 1, none⟩ (.int .i64 p2.vec)).setCell ⟨g, 2, none⟩ (.bool p2.level)).setCell ⟨g, 3, none⟩ (.bool p2.masked)).setCell ⟨g, 4, none⟩ (.bool p2.up)).setCell ⟨g, 5, none⟩ (.bool p2.kept)).setCell ⟨g, 6, none⟩ (.bool p2.sent)) := by
        repeat (first | (with_reducible assumption) | (with_reducible refine Mid0.drew ?_) | (with_reducible refine Mid0.alloc ?_ _) | ((with_reducible refine Mid0.set ?_ ?_ _ _); rotate_left; focus (first | omega | (simp; done) | (simp; omega))))
      have CX : g < (((((((w2.setCell ⟨g, 0, none⟩ (.int .i64 p2.core)).setCell ⟨g, 1, none⟩ (.int .i64 p2.vec)).setCell ⟨g, 2, none⟩ (.bool p2.level)).setCell ⟨g, 3, none⟩ (.bool p2.masked)).setCell ⟨g, 4, none⟩ (.bool p2.up)).setCell ⟨g, 5, none⟩ (.bool p2.kept)).setCell ⟨g, 6, none⟩ (.bool p2.sent)).heap.size ∧ (((((((w2.setCell ⟨g, 0, none⟩ (.int .i64 p2.core)).setCell ⟨g, 1, none⟩ (.int .i64 p2.vec)).setCell ⟨g, 2, none⟩ (.bool p2.level)).setCell ⟨g, 3, none⟩ (.bool p2.masked)).setCell ⟨g, 4, none⟩ (.bool p2.up)).setCell ⟨g, 5, none⟩ (.bool p2.kept)).setCell ⟨g, 6, none⟩ (.bool p2.sent)).cell? ⟨g, 0, none⟩ = some (.int .i64 p2.core) ∧ (((((((w2.setCell ⟨g, 0, none⟩ (.int .i64 p2.core)).setCell ⟨g, 1, none⟩ (.int .i64 p2.vec)).setCell ⟨g, 2, none⟩ (.bool p2.level)).setCell ⟨g, 3, none⟩ (.bool p2.masked)).setCell ⟨g, 4, none⟩ (.bool p2.up)).setCell ⟨g, 5, none⟩ (.bool p2.kept)).setCell ⟨g, 6, none⟩ (.bool p2.sent)).cell? ⟨g, 1, none⟩ = some (.int .i64 p2.vec) ∧ (((((((w2.setCell ⟨g, 0, none⟩ (.int .i64 p2.core)).setCell ⟨g, 1, none⟩ (.int .i64 p2.vec)).setCell ⟨g, 2, none⟩ (.bool p2.level)).setCell ⟨g, 3, none⟩ (.bool p2.masked)).setCell ⟨g, 4, none⟩ (.bool p2.up)).setCell ⟨g, 5, none⟩ (.bool p2.kept)).setCell ⟨g, 6, none⟩ (.bool p2.sent)).cell? ⟨g, 2, none⟩ = some (.bool p2.level) ∧ (((((((w2.setCell ⟨g, 0, none⟩ (.int .i64 p2.core)).setCell ⟨g, 1, none⟩ (.int .i64 p2.vec)).setCell ⟨g, 2, none⟩ (.bool p2.level)).setCell ⟨g, 3, none⟩ (.bool p2.masked)).setCell ⟨g, 4, none⟩ (.bool p2.up)).setCell ⟨g, 5, none⟩ (.bool p2.kept)).setCell ⟨g, 6, none⟩ (.bool p2.sent)).cell? ⟨g, 3, none⟩ = some (.bool p2.masked) ∧ (((((((w2.setCell ⟨g, 0, none⟩ (.int .i64 p2.core)).setCell ⟨g, 1, none⟩ (.int .i64 p2.vec)).setCell ⟨g, 2, none⟩ (.bool p2.level)).setCell ⟨g, 3, none⟩ (.bool p2.masked)).setCell ⟨g, 4, none⟩ (.bool p2.up)).setCell ⟨g, 5, none⟩ (.bool p2.kept)).setCell ⟨g, 6, none⟩ (.bool p2.sent)).cell? ⟨g, 4, none⟩ = some (.bool p2.up) ∧ (((((((w2.setCell ⟨g, 0, none⟩ (.int .i64 p2.core)).setCell ⟨g, 1, none⟩ (.int .i64 p2.vec)).setCell ⟨g, 2, none⟩ (.bool p2.level)).setCell ⟨g, 3, none⟩ (.bool p2.masked)).setCell ⟨g, 4, none⟩ (.bool p2.up)).setCell ⟨g, 5, none⟩ (.bool p2.kept)).setCell ⟨g, 6, none⟩ (.bool p2.sent)).cell? ⟨g, 5, none⟩ = some (.bool p2.kept) ∧ (((((((w2.setCell ⟨g, 0, none⟩ (.int .i64 p2.core)).setCell ⟨g, 1, none⟩ (.int .i64 p2.vec)).setCell ⟨g, 2, none⟩ (.bool p2.level)).setCell ⟨g, 3, none⟩ (.bool p2.masked)).setCell ⟨g, 4, none⟩ (.bool p2.up)).setCell ⟨g, 5, none⟩ (.bool p2.kept)).setCell ⟨g, 6, none⟩ (.bool p2.sent)).cell? ⟨g, 6, none⟩ = some (.bool p2.sent) := by
        refine ⟨?_, ?_, ?_, ?_, ?_, ?_, ?_, ?_⟩
        all_goals first
          | (simp; done)
          | (simp; omega)
          | go_simp
      generalize ((((((w2.setCell ⟨g, 0, none⟩ (.int .i64 p2.core)).setCell ⟨g, 1, none⟩ (.int .i64 p2.vec)).setCell ⟨g, 2, none⟩ (.bool p2.level)).setCell ⟨g, 3, none⟩ (.bool p2.masked)).setCell ⟨g, 4, none⟩ (.bool p2.up)).setCell ⟨g, 5, none⟩ (.bool p2.kept)).setCell ⟨g, 6, none⟩ (.bool p2.sent) = wy at MX CX ⊢
      obtain ⟨hg3, y0, y1, y2, y3, y4, y5, y6⟩ := CX
      clear MM TT G3 LG3 g0 g1 g2 g3 g4 g5 g6 gf hg2 hlv
      obtain ⟨o0, o1, r0, r1, r2, r3, r4, r5, r6⟩ := (Mid0.all HQ MX).2
      have f0 := MX.1.2.1.frozen (q * 7)
      have f1 := MX.1.2.1.frozen (q * 7 + 1)
      have f2 := MX.1.2.1.frozen (q * 7 + 2)
      have f3 := MX.1.2.1.frozen (q * 7 + 3)
      have f4 := MX.1.2.1.frozen (q * 7 + 4)
      have f5 := MX.1.2.1.frozen (q * 7 + 5)
      have f6 := MX.1.2.1.frozen (q * 7 + 6)
      have hhc := MX.1.2.1.lt
      have RP := MX.1.put p2 hq
      have hne1 : ¬ (h = w.heap.size) := by omega
      have hne2 : ¬ (h = g) := by omega
      have RUN := Lib.hid MX.1
      clear MX
      cases t
      · go_wp2_with fail
        go_ret
        refine ⟨vs, rfl, ?_⟩
        with_reducible exact RP
      · go_wp2_with (first
          | (at_builtin; refine wpList_append_one _ rfl _ _ 24 rfl W.heap.size 36 i1 _ 3 24 Try.underlying24 hj hy0 hy1 hy2 rfl (by decide) _ _ _ rfl (RP.2.2.2.1.alloc _) ⟨_, 0, none⟩ 1 [.int .i64 (q : Int), .int .i64 p2.core, .int .i64 p2.vec] rfl rfl ?c1 ?c2 ?c3 ?c4 ?c5 _ rfl ?_)
          | fail)
        case c1 =>
          intro j u hj
          rw [Go.WideShapes.add_plain]
          have h3 : j = 0 ∨ j = 1 ∨ j = 2 := by
            have := (List.getElem?_eq_some_iff.1 hj).1
            simp at this
            omega
          rcases h3 with rfl | rfl | rfl <;> simp at hj <;> subst hj <;> go_simp
        case c2 => first | exact ⟨rfl, rfl, rfl⟩ | (intro u hu; simp at hu; rcases hu with rfl | rfl | rfl <;> rfl)
        case c3 => unfold maxLen; omega
        case c4 => exact next_one (by omega)
        case c5 => have := RUN.out.1.size; first | omega | (simp; omega)
        · intro g' cap' w4 hown hgrow hor _
          have RM := RP.more ⟨q, p2.core, p2.vec⟩ hown hgrow (by simpa using hor)
          clear hown hgrow hor RP
          go_wp2_with fail
          go_ret
          refine ⟨.slice (some ⟨g', 0, none⟩) (ss.length + 1) cap', rfl, ?_⟩
          with_reducible exact RM
end Go.Proofs.Ytmldedkmmhnihaa
