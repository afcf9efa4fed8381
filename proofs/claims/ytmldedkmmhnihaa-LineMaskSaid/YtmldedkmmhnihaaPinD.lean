/- The walk of corebellref.CPlay. -/
import Derived.Test.YtmldedkmmhnihaaOne
import Derived.Test.YtmldedkmmhnihaaPinC
namespace Go.Proofs.Ytmldedkmmhnihaa
open Go.RowKit

theorem info_pin : (Try.prog.info? 33).map (fun i => (i.zero, i.size, i.bytes)) = some (some (.agg #[.int .i64 0, .int .i64 0, .bool false, .bool false, .bool false, .bool false, .bool false]), 7, 24) := by kernel_rfl
theorem info_sent : (Try.prog.info? 36).map (fun i => (i.zero, i.size, i.bytes)) = some (some (.agg #[.int .i64 0, .int .i64 0, .int .i64 0]), 3, 24) := by kernel_rfl
/-- What the loop keeps. -/
def Runs (W : World) (h : Nat) (out : List PinT) (ss : List SentT) (vs : Value) (w : World) : Prop :=
  Below W.heap.size W w ∧ PinRow w h out ∧ W.heap.size ≤ h ∧ w.ownsRow W.heap.size 36 3 vs ss.length (flatS ss) ∧ vs.ownBlock ≠ some h

theorem Runs.step {W w w' : World} {h : Nat} {out : List PinT} {ss : List SentT} {vs : Value} (r : Runs W h out ss vs w) (hb : Below w.heap.size w w') : Runs W h out ss vs w' := by
  obtain ⟨h1, h2, h3, h4, h5⟩ := r
  refine ⟨pstep h1 hb, h2.step hb, h3, ?_, h5⟩
  obtain ⟨g1, g2⟩ := h4
  refine ⟨g1, ?_⟩
  rcases g2 with g2 | ⟨g, cap, cur, hv, hg, hh, r⟩
  · exact Or.inl g2
  · exact Or.inr ⟨g, cap, cur, hv, hg, by rw [hb.block g ((Array.getElem?_eq_some_iff.1 hh).1)]; exact hh, r⟩
theorem Runs.alloc {W w : World} {h : Nat} {out : List PinT} {ss : List SentT} {vs : Value} (r : Runs W h out ss vs w) (o : Obj) : Runs W h out ss vs (w.alloc o) := r.step ((Below.refl _ _).alloc (Nat.le_refl _) o)

theorem Runs.drew {W w : World} {h : Nat} {out : List PinT} {ss : List SentT} {vs : Value} (r : Runs W h out ss vs w) : Runs W h out ss vs w.drew := ⟨r.1.drew, r.2.1, r.2.2.1, r.2.2.2.1, r.2.2.2.2⟩
theorem Runs.own {W w : World} {h : Nat} {out : List PinT} {ss : List SentT} {vs : Value} (r : Runs W h out ss vs w) (g : Nat) (hg : vs.ownBlock = some g) : g < w.heap.size := (r.2.2.2.1.lt g hg).2
theorem Runs.set {W w : World} {h g : Nat} {out : List PinT} {ss : List SentT} {vs : Value} (r : Runs W h out ss vs w) (hw : W.heap.size ≤ g) (hgh : h < g) (hgo : ∀ b, vs.ownBlock = some b → b < g) (i : Nat) (v : Value) : Runs W h out ss vs (w.setCell ⟨g, i, none⟩ v) := by
  obtain ⟨h1, h2, h3, h4, h5⟩ := r
  refine ⟨h1.setCell (p := ⟨g, i, none⟩) hw v, ?_, h3, ?_, h5⟩
  · obtain ⟨cur, hc, hi⟩ := h2
    exact ⟨cur, by rw [heap_setCell_other _ _ _ _ (show h ≠ (⟨g, i, none⟩ : Addr).block by show h ≠ g; omega)]; exact hc, hi⟩
  · obtain ⟨g1, g2⟩ := h4
    refine ⟨g1, ?_⟩
    rcases g2 with g2 | ⟨g', cap, cur, hv, hg, hh, r⟩
    · exact Or.inl g2
    · have := hgo g' (by rw [hv]; rfl)
      exact Or.inr ⟨g', cap, cur, hv, hg, by rw [heap_setCell_other _ _ _ _ (show g' ≠ (⟨g, i, none⟩ : Addr).block by show g' ≠ g; omega)]; exact hh, r⟩
theorem Runs.put {W w : World} {h q : Nat} {out : List PinT} {ss : List SentT} {vs : Value} (r : Runs W h out ss vs w) (p : PinT) (hq : q < out.length) : Runs W h (out.set q p) ss vs (((((((w.setCell ⟨h, q * 7, none⟩ (.int .i64 p.core)).setCell ⟨h, q * 7 + 1, none⟩ (.int .i64 p.vec)).setCell ⟨h, q * 7 + 2, none⟩ (.bool p.level)).setCell ⟨h, q * 7 + 3, none⟩ (.bool p.masked)).setCell ⟨h, q * 7 + 4, none⟩ (.bool p.up)).setCell ⟨h, q * 7 + 5, none⟩ (.bool p.kept)).setCell ⟨h, q * 7 + 6, none⟩ (.bool p.sent)) := by
  obtain ⟨h1, h2, h3, h4, h5⟩ := r
  refine ⟨?_, h2.put p hq, h3, ?_, h5⟩
  · repeat (first | (with_reducible exact h1) | ((with_reducible refine Below.setCell ?_ ?_ _); rotate_left; focus (exact h3)))
  · obtain ⟨g1, g2⟩ := h4
    refine ⟨g1, ?_⟩
    rcases g2 with g2 | ⟨g', cap, cur, hv, hg, hh, r⟩
    · exact Or.inl g2
    · have hne : g' ≠ h := fun e => h5 (by rw [hv, e]; rfl)
      refine Or.inr ⟨g', cap, cur, hv, hg, ?_, r⟩
      have o : ∀ (w : World) (i : Nat) (v : Value), (w.setCell ⟨h, i, none⟩ v).heap[g']? = w.heap[g']? := fun w i v => heap_setCell_other _ _ _ _ (show g' ≠ (⟨h, i, none⟩ : Addr).block from hne)
      rw [o, o, o, o, o, o, o]
      exact hh
theorem flatS_snoc (l : List SentT) (x : SentT) : flatS (l ++ [x]) = flatS l ++ [.int .i64 x.pin, .int .i64 x.core, .int .i64 x.vec] := by simp [flatS]
theorem Runs.more {W w w1 : World} {h g' cap' : Nat} {out : List PinT} {ss : List SentT} {vs : Value} {o : Obj} (r : Runs W h out ss vs w) (x : SentT)
    (hown : w1.ownsRow W.heap.size 36 3 (.slice (some ⟨g', 0, none⟩) (ss.length + 1) cap') (ss.length + 1) (flatS ss ++ [.int .i64 x.pin, .int .i64 x.core, .int .i64 x.vec])) (hgrow : (w.alloc o).grownBy w1 vs.ownBlock) (hor : vs.ownBlock = some g' ∨ g' = w.heap.size + 1) :
    Runs W h out (ss ++ [x]) (.slice (some ⟨g', 0, none⟩) (ss.length + 1) cap') w1 := by
  obtain ⟨h1, h2, h3, h4, h5⟩ := r
  have hs := h1.size
  have hl := h2.lt
  refine ⟨(h1.alloc hs o).grown hgrow (by simp; omega) (fun k hk => (h4.lt k hk).1), ?_, h3, ?_, ?_⟩
  · obtain ⟨cur, hc, hi⟩ := h2
    refine ⟨cur, ?_, hi⟩
    rw [hgrow.block h (by simp; omega) (fun e => h5 e.symm), Below.heap_alloc _ _ _ hl]
    exact hc
  · rw [flatS_snoc]
    simpa using hown
  · simp only [Value.ownBlock, ne_eq, Option.some.injEq]
    rcases hor with hor | hor
    · intro e
      exact h5 (by rw [hor, e])
    · omega
/-- In the middle of a round: the operation in a block of its own. -/
def Mid0 (W : World) (h : Nat) (out : List PinT) (ss : List SentT) (vs : Value) (O : Nat) (x y : Int) (w : World) : Prop := Runs W h out ss vs w ∧ w.heap[O]? = some (.cells #[.int .i64 x, .int .i64 y] 41 (0, 0)) ∧ h < O ∧ ∀ g, vs.ownBlock = some g → g < O
theorem Mid0.step {W w w' : World} {h O : Nat} {out : List PinT} {ss : List SentT} {vs : Value} {x y : Int} (m : Mid0 W h out ss vs O x y w) (hb : Below w.heap.size w w') : Mid0 W h out ss vs O x y w' := ⟨m.1.step hb, by rw [hb.block O (Array.getElem?_eq_some_iff.1 m.2.1).1]; exact m.2.1, m.2.2⟩
theorem Mid0.stepS {W w w' : World} {h O : Nat} {out : List PinT} {ss : List SentT} {vs : Value} {x y : Int} {R : Prop} (m : Mid0 W h out ss vs O x y w ∧ R) (hb : Below w.heap.size w w') : Mid0 W h out ss vs O x y w' := m.1.step hb
theorem Mid0.alloc {W w : World} {h O : Nat} {out : List PinT} {ss : List SentT} {vs : Value} {x y : Int} (m : Mid0 W h out ss vs O x y w) (o : Obj) : Mid0 W h out ss vs O x y (w.alloc o) := m.step ((Below.refl _ _).alloc (Nat.le_refl _) o)
theorem Mid0.drew {W w : World} {h O : Nat} {out : List PinT} {ss : List SentT} {vs : Value} {x y : Int} (m : Mid0 W h out ss vs O x y w) : Mid0 W h out ss vs O x y w.drew := ⟨m.1.drew, m.2⟩
theorem Mid0.set {W w : World} {h O g : Nat} {out : List PinT} {ss : List SentT} {vs : Value} {x y : Int} (m : Mid0 W h out ss vs O x y w) (hg : O < g) (i : Nat) (v : Value) : Mid0 W h out ss vs O x y (w.setCell ⟨g, i, none⟩ v) :=
  ⟨m.1.set (by have := m.1.2.2.1; have := m.2.2.1; omega) (by have := m.2.2.1; omega) (fun b hb => by have := m.2.2.2 b hb; omega) i v, by rw [heap_setCell_other _ _ _ _ (show O ≠ (⟨g, i, none⟩ : Addr).block by show O ≠ g; omega)]; exact m.2.1, m.2.2⟩
theorem Mid0.all {W w' : World} {h O q : Nat} {out : List PinT} {ss : List SentT} {vs : Value} {x y : Int} {p : PinT} (hq : Hid (q < out.length ∧ out.getD q pin0 = p)) (m : Mid0 W h out ss vs O x y w') :
    Mid0 W h out ss vs O x y w' ∧ w'.cell? ⟨O, 0, none⟩ = some (.int .i64 x) ∧ w'.cell? ⟨O, 1, none⟩ = some (.int .i64 y) ∧ w'.cell? ⟨h, q * 7, none⟩ = some (.int .i64 p.core) ∧ w'.cell? ⟨h, q * 7 + 1, none⟩ = some (.int .i64 p.vec) ∧ w'.cell? ⟨h, q * 7 + 2, none⟩ = some (.bool p.level) ∧ w'.cell? ⟨h, q * 7 + 3, none⟩ = some (.bool p.masked) ∧ w'.cell? ⟨h, q * 7 + 4, none⟩ = some (.bool p.up) ∧ w'.cell? ⟨h, q * 7 + 5, none⟩ = some (.bool p.kept) ∧ w'.cell? ⟨h, q * 7 + 6, none⟩ = some (.bool p.sent) := by
  have h7 := m.1.2.1.lies.at q hq.out.1 p hq.out.2
  simp only [Nat.zero_add] at h7
  exact ⟨m, by rw [cell_of_row w' O _ _ _ _ m.2.1]; rfl, by rw [cell_of_row w' O _ _ _ _ m.2.1]; rfl, h7⟩
/-- A line in a variable. -/
def PinOne (w : World) (g : Nat) (p : PinT) : Prop := w.heap[g]? = some (.cells #[.int .i64 p.core, .int .i64 p.vec, .bool p.level, .bool p.masked, .bool p.up, .bool p.kept, .bool p.sent] 33 (0, 0))
theorem bat' {w w1 : World} (hb : Below w.heap.size w w1) (b : Nat) (h : b < w.heap.size) : (∀ o, w1.cell? ⟨b, o, none⟩ = w.cell? ⟨b, o, none⟩) ∧ (∀ o, w1.frozen? ⟨b, o, none⟩ = w.frozen? ⟨b, o, none⟩) ∧ b < w1.heap.size :=
  ⟨fun o => hb.cell (p := ⟨b, o, none⟩) h, fun o => hb.frozen (p := ⟨b, o, none⟩) h, Nat.lt_of_lt_of_le h hb.size⟩
set_option maxHeartbeats 4000000 in
set_option maxRecDepth 100000 in
theorem cplay_core (b off cap ob ooff olen ocap : Nat) (l : List PinT) (K P : Nat → Int) (w : World) (hb : b < w.heap.size) (hob : ob < w.heap.size) (h24 : l.length ≤ 24) (hl0 : 0 < l.length) (hol : olen ≤ 8796093022208) (HL : Hid (LiesP w b off l))
    (HO : Hid (∀ k, k < olen → w.cell? ⟨ob, ooff + k * 2, none⟩ = some (.int .i64 (K k)) ∧ w.cell? ⟨ob, ooff + k * 2 + 1, none⟩ = some (.int .i64 (P k)))) :
    Calls Try.prog 9 #[.slice (some ⟨b, off, none⟩) l.length cap, .slice (some ⟨ob, ooff, none⟩) olen ocap] w fun e w' => ∃ h cap' vs, e = .returned (.tuple #[.slice (some ⟨h, 0, none⟩) l.length cap', vs]) ∧ Runs w h (playTo l K P olen).1 (playTo l K P olen).2 vs w' := by
  obtain ⟨i0, hi, hz0, hz1, hz2⟩ := info_parts info_pin
  obtain ⟨i1, hj, hy0, hy1, hy2⟩ := info_parts info_sent
  go_enter Try.func9, Try.ntmps9
  go_wp2_with (first
    | (at_builtin; refine wpList_append_lies _ rfl _ _ 22 rfl w.heap.size 33 i0 _ 7 24 Try.underlying22 hi hz0 hz1 hz2 rfl (by decide) (.slice (some ⟨w.heap.size, 0, none⟩) 0 0) 0 [] rfl ?c0 ⟨b, off, none⟩ l.length cap (flatP l) rfl (flatP_len l) ?c1 ?c2 hl0 ?c3 ?c4 ?c5 (w.heap.size + 1) ?c6 ?_)
    | fail)
  case c0 => exact ⟨rfl, Or.inr ⟨w.heap.size, 0, #[], rfl, Nat.le_refl _, heap_alloc_new w _, Nat.le_refl _, Nat.zero_le _, rfl, rfl⟩⟩
  case c1 =>
    intro j u hj
    have hjl : j < (flatP l).length := (List.getElem?_eq_some_iff.1 hj).1
    rw [flatP_len] at hjl
    have hat := flatP_at l (j / 7) (j % 7) (by omega) (by omega)
    have hcell := HL.out (j / 7) (by omega) (j % 7) (by omega)
    rw [show j / 7 * 7 + j % 7 = j by omega] at hat
    rw [hj] at hat
    rw [Go.WideShapes.add_plain, World.cell?_alloc_past _ _ _ (show (⟨b, off + j, none⟩ : Addr).block < w.heap.size from hb)]
    rw [show off + j = off + j / 7 * 7 + j % 7 by omega, hcell]
    exact hat.symm
  case c2 =>
    intro u hu
    simp only [flatP, List.mem_flatMap] at hu
    obtain ⟨p, _, hp⟩ := hu
    simp at hp
    rcases hp with rfl | rfl | rfl | rfl | rfl | rfl | rfl <;> rfl
  case c3 => unfold maxLen; omega
  case c4 => omega
  case c5 => simp
  case c6 => simp
  intro h cap1 w1 hown hgrow hor hlt
  have hh : w.heap.size ≤ h := by first | omega | (rcases hor with hor | hor <;> first | omega | (simp [Value.ownBlock] at hor; omega))
  have R0 : Runs w h l [] (.slice none 0 0) w1 := by
    refine ⟨((Below.refl _ _).alloc (Nat.le_refl _) _).grown hgrow (by simp) (fun k hk => by simp [Value.ownBlock] at hk; omega), ?_, hh, World.ownsRow_nil _ _ _ _, by simp [Value.ownBlock]⟩
    obtain ⟨_, h2⟩ := hown
    rcases h2 with ⟨h2, _⟩ | ⟨g, cp, cur, e, _, hc, _, _, hsz, ht⟩
    · cases h2
    · simp only [Value.slice.injEq, Option.some.injEq, Addr.mk.injEq, and_true, true_and] at e
      obtain ⟨rfl, rfl⟩ := e
      refine ⟨cur, hc, fun j hj i hi => ?_⟩
      rw [← flatP_at l j i hj hi, ← ht, List.getElem?_take_of_lt (by omega), Array.getElem?_toList]
  clear hown hgrow hor hlt
  go_wp2_with fail
  go_loopw [7, 17] (fun vs i wr => ∃ k : Nat, k ≤ olen ∧ i = .int .i64 k ∧ Runs w h (playTo l K P k).1 (playTo l K P k).2 vs wr) (fun _ i _ => olen - (intOf i).toNat)
  case atStart => exact ⟨0, Nat.zero_le _, rfl, R0⟩
  case round =>
    clear R0
    obtain ⟨k, hk, rfl, R0⟩ := hrel
    obtain ⟨hln, hls⟩ := playTo_len l K P k
    obtain ⟨st, hst⟩ : ∃ st, playTo l K P k = st := ⟨_, rfl⟩
    rw [hst] at R0 hln hls
    by_cases hkl : k < olen
    · obtain ⟨x, hx⟩ : ∃ x : Int, K k = x := ⟨_, rfl⟩
      obtain ⟨y, hy⟩ : ∃ y : Int, P k = y := ⟨_, rfl⟩
      have e0 : wr.cell? ⟨ob, ooff + k * 2, none⟩ = some (.int .i64 x) := by rw [← hx]; exact (R0.1.cell hob).trans (HO.out k hkl).1
      have e1 : wr.cell? ⟨ob, ooff + k * 2 + 1, none⟩ = some (.int .i64 y) := by rw [← hy]; exact (R0.1.cell hob).trans (HO.out k hkl).2
      have HN : Hid (playTo l K P (k + 1) = playStep st x y) := by
        show playStep (playTo l K P k) (K k) (P k) = _
        rw [hst, hx, hy]
      have hL := R0.1.size
      clear hx hy hst
      by_cases hg : 1 ≤ x ∧ x ≤ 5 ∧ 0 ≤ y ∧ y < l.length
      · obtain ⟨hx1, hx5, hy0', hyl⟩ := hg
        obtain ⟨q, rfl⟩ : ∃ q : Nat, y = q := ⟨y.toNat, by omega⟩
        have hq : q < st.1.length := by omega
        obtain ⟨p, hp⟩ : ∃ p, st.1.getD q pin0 = p := ⟨_, rfl⟩
        obtain ⟨c0, c1, c2, c3, c4, c5, c6⟩ := R0.2.1.lies.at q hq p hp
        simp only [Nat.zero_add] at c0 c1 c2 c3 c4 c5 c6
        obtain ⟨⟨p2, t⟩, hpt⟩ : ∃ r, pinStep p x = r := ⟨_, rfl⟩
        have hn' : playTo l K P (k + 1) = (st.1.set q p2, if t = true then st.2 ++ [⟨q, p2.core, p2.vec⟩] else st.2) := by
          rw [HN.out]
          unfold playStep
          rw [if_pos (by rw [hln]; exact ⟨hx1, hx5, hy0', hyl⟩), Int.toNat_natCast, hp, hpt]
        have HN' := Lib.hid hn'
        have HPT := Lib.hid hpt
        have hh := R0.2.1.lt
        have d1 : decide (x < 1) = false := by simp; omega
        have d2 : decide (5 < x) = false := by simp; omega
        have d3 : decide ((q : Int) < 0) = false := by simp
        have d4 : decide ((l.length : Int) ≤ (q : Int)) = false := by simp; omega
        have d5 : decide (l.length ≤ q) = false := by simp; omega
        have R1 := Runs.alloc R0 (.cells #[.int .i64 x, .int .i64 (q : Int)] 41)
        have HP := Lib.hid hp
        clear HN hn' hpt hp
        have M1 : Mid0 w h st.1 st.2 u7 wr.heap.size x q (wr.alloc (.cells #[.int .i64 x, .int .i64 (q : Int)] 41)) := ⟨R1, heap_alloc_new wr _, hh, fun g hg => Runs.own R0 g hg⟩
        have M1d := M1.drew
        have HQ : Hid (q < st.1.length ∧ st.1.getD q pin0 = p) := ⟨hq, HP.out⟩
        clear R0 R1 c0 c1 c2 c3 c4 c5 c6
        go_upto_region 7 with fail
        go_cut [10, 11] from 41 to 68 (fun s10 s11 wx => ∃ g : Nat, s10 = .pointer (some ⟨g, 0, none⟩) ∧ s11 = .bool t ∧ Mid0 w h st.1 st.2 u7 wr.heap.size x q wx ∧ wr.heap.size < g ∧ g < wx.heap.size ∧ wx.cell? ⟨g, 0, none⟩ = some (.int .i64 p2.core) ∧ wx.cell? ⟨g, 1, none⟩ = some (.int .i64 p2.vec) ∧ wx.cell? ⟨g, 2, none⟩ = some (.bool p2.level) ∧ wx.cell? ⟨g, 3, none⟩ = some (.bool p2.masked) ∧ wx.cell? ⟨g, 4, none⟩ = some (.bool p2.up) ∧ wx.cell? ⟨g, 5, none⟩ = some (.bool p2.kept) ∧ wx.cell? ⟨g, 6, none⟩ = some (.bool p2.sent))
        case first =>
          go_region_held3 (fun w' => Mid0 w h st.1 st.2 u7 wr.heap.size x q w' ∧ w'.cell? ⟨wr.heap.size, 0, none⟩ = some (.int .i64 x) ∧ w'.cell? ⟨wr.heap.size, 1, none⟩ = some (.int .i64 (q : Int)) ∧ w'.cell? ⟨h, q * 7, none⟩ = some (.int .i64 p.core) ∧ w'.cell? ⟨h, q * 7 + 1, none⟩ = some (.int .i64 p.vec) ∧ w'.cell? ⟨h, q * 7 + 2, none⟩ = some (.bool p.level) ∧ w'.cell? ⟨h, q * 7 + 3, none⟩ = some (.bool p.masked) ∧ w'.cell? ⟨h, q * 7 + 4, none⟩ = some (.bool p.up) ∧ w'.cell? ⟨h, q * 7 + 5, none⟩ = some (.bool p.kept) ∧ w'.cell? ⟨h, q * 7 + 6, none⟩ = some (.bool p.sent))
            ((refine Mid0.all HQ ?_; repeat (first | (with_reducible assumption) | (with_reducible refine Mid0.drew ?_) | (with_reducible refine Mid0.alloc ?_ _) | ((with_reducible refine Mid0.set ?_ ?_ _ _); rotate_left; focus (first | omega | (simp; done) | (simp; omega))))))
            (first
              | (go_at_call 26; ((with_reducible refine (cstep_R p p2 x t _ hx1 hx5 HPT).mono ?_); rintro e w2 ⟨rfl, hb2⟩; (first | (have TT := Mid0.step (by with_reducible assumption) hb2) | (have TT := Mid0.stepS (by with_reducible assumption) hb2)); (try (have G3 := bat' hb2 (wr.heap.size + 1) (by first | omega | (simp; done) | (simp; omega)))); have G2 := bat' hb2 wr.heap.size (by first | omega | (simp; done) | (simp; omega)); have LG := G2.2.2; (try (have LG3 := G3.2.2)); clear G2 hb2)))
          all_goals go_wp2_with fail
          all_goals go_meet
          all_goals
            refine ⟨_, rfl, rfl, ?_, ?_, ?_, ?_, ?_, ?_, ?_, ?_, ?_, ?_⟩
            · repeat (first | (with_reducible assumption) | (with_reducible refine Mid0.drew ?_) | (with_reducible refine Mid0.alloc ?_ _) | ((with_reducible refine Mid0.set ?_ ?_ _ _); rotate_left; focus (first | omega | (simp; done) | (simp; omega))))
          all_goals first
            | omega
            | (simp; omega)
            | go_simp
        case rest =>
          obtain ⟨g, rfl, rfl, MM, hg1, hg2, g0, g1, g2, g3, g4, g5, g6⟩ := hcut
          obtain ⟨o0, o1, r0, r1, r2, r3, r4, r5, r6⟩ := (Mid0.all HQ MM).2
          have f0 := MM.1.2.1.frozen (q * 7)
          have f1 := MM.1.2.1.frozen (q * 7 + 1)
          have f2 := MM.1.2.1.frozen (q * 7 + 2)
          have f3 := MM.1.2.1.frozen (q * 7 + 3)
          have f4 := MM.1.2.1.frozen (q * 7 + 4)
          have f5 := MM.1.2.1.frozen (q * 7 + 5)
          have f6 := MM.1.2.1.frozen (q * 7 + 6)
          have hhc := MM.1.2.1.lt
          have RP := MM.1.put p2 hq
          have hlen := hls
          have hne1 : ¬ (h = wr.heap.size) := by omega
          have hne2 : ¬ (h = g) := by omega
          have RUN := Lib.hid MM.1
          clear MM M1 M1d
          cases t
          · go_wp2_with fail
            go_roundw
            case rel => exact ⟨k + 1, by omega, by go_num, by rw [HN'.out]; exact RP⟩
            case measure => simp [intOf]; omega
          · go_wp2_with (first
              | (at_builtin; refine wpList_append_one _ rfl _ _ 24 rfl w.heap.size 36 i1 _ 3 24 Try.underlying24 hj hy0 hy1 hy2 rfl (by decide) _ _ _ rfl (RP.2.2.2.1.alloc _) ⟨_, 0, none⟩ 1 [.int .i64 (q : Int), .int .i64 p2.core, .int .i64 p2.vec] rfl rfl ?c1 ?c2 ?c3 ?c4 ?c5 _ rfl ?_)
              | fail)
            case c2 => first | exact ⟨rfl, rfl, rfl⟩ | (intro u hu; simp at hu; rcases hu with rfl | rfl | rfl <;> rfl)
            case c3 => unfold maxLen; omega
            case c4 => exact next_one (by omega)
            case c5 => have := RUN.out.1.size; first | omega | (simp; omega)
            · intro g' cap' w4 hown hgrow hor _
              have RM := RP.more ⟨q, p2.core, p2.vec⟩ hown hgrow (by simpa using hor)
              clear hown hgrow hor RP
              go_wp2_with fail
              go_roundw
              case rel => exact ⟨k + 1, by omega, by go_num, by rw [HN'.out]; simpa using RM⟩
              case measure => simp [intOf]; omega
      · have hn' : playTo l K P (k + 1) = st := by
          rw [HN.out]
          unfold playStep
          rw [if_neg (by rw [hln]; exact hg)]
        have HN' := Lib.hid hn'
        clear hn'
        have R1 := Runs.alloc R0 (.cells #[.int .i64 x, .int .i64 y] 41)
        clear HN
        by_cases h1 : x < 1
        · have d1 : decide (x < 1) = true := by simpa using h1
          go_wp2_with fail
          go_roundw
          case rel => exact ⟨k + 1, by omega, by go_num, by rw [HN'.out]; exact R1⟩
          case measure => simp [intOf]; omega
        · have d1 : decide (x < 1) = false := by simpa using h1
          by_cases h2 : 5 < x
          · have d2 : decide (5 < x) = true := by simpa using h2
            go_wp2_with fail
            go_roundw
            case rel => exact ⟨k + 1, by omega, by go_num, by rw [HN'.out]; exact R1⟩
            case measure => simp [intOf]; omega
          · have d2 : decide (5 < x) = false := by simpa using h2
            by_cases h3 : y < 0
            · have d3 : decide (y < 0) = true := by simpa using h3
              go_wp2_with fail
              go_roundw
              case rel => exact ⟨k + 1, by omega, by go_num, by rw [HN'.out]; exact R1⟩
              case measure => simp [intOf]; omega
            · have d3 : decide (y < 0) = false := by simpa using h3
              have d4 : decide ((l.length : Int) ≤ y) = true := by simp; omega
              go_wp2_with fail
              go_roundw
              case rel => exact ⟨k + 1, by omega, by go_num, by rw [HN'.out]; exact R1⟩
              case measure => simp [intOf]; omega
    · have hke : k = olen := by omega
      subst hke
      clear hkl hk
      go_wp2_with fail
      refine bodyPost_ret (results_tmp2 rfl _ _ _) rfl ⟨h, cap1, _, rfl, by rw [hst]; exact R0⟩
end Go.Proofs.Ytmldedkmmhnihaa
