/- UartAsks: it asks as long as something can be read; read all, it asks no more, and all that came in was told. -/
import Derived.Test.YtalcfbdnnlapnaaUarG
import Derived.Test.YtalcfbdnnlapnaaUarO
namespace Go.Proofs.Ytalcfbdnnlapnaa
open Go.RowKit

/-- A reading stays while a row grows that lies elsewhere. -/
theorem at_grown {α : Type} {S : Shape α} {w w' : World} {ad : Option Addr} {cap n : Nat} {l : List α} {r : Option Nat} (h : S.At w ad cap l) (hg : w.grownBy w' r) (hne : 0 < l.length → ∀ g, (Value.slice ad n cap).ownBlock = some g → some g ≠ r) : S.At w' ad cap l :=
  ⟨h.1, fun h1 => by
    obtain ⟨b, off, rfl, hlt, hl⟩ := h.2 h1
    refine ⟨b, off, rfl, Nat.lt_of_lt_of_le hlt hg.size, fun k hk => ?_⟩
    have : w'.heap[b]? = w.heap[b]? := hg.block b hlt (hne h1 b rfl)
    exact (World.cell?_of_block (a := ⟨b, off + k, none⟩) this).trans (hl k hk)⟩
/-- A read, where something is there. -/
theorem resU_read {x : UInt8} {r out : List UInt8} {lost : Nat} (h1 : (x :: r).length ≤ 16) (h2 : out.length ≤ 16) (h3 : lost ≤ 1099511627776) : resU (x :: r) out (lost : Nat) true ⟨2, 0⟩ = (⟨r, out, lost⟩, x, 0) := by
  have hr : rgt (x :: r).length out.length (lost : Nat) true = true := decide_eq_true ⟨h1, h2, by omega, by omega, by simp⟩
  unfold resU
  rw [if_pos hr]
  have hl : (lost : Int).toNat = lost := by omega
  rw [hl]
  have he : errB ⟨x :: r, out, lost⟩ ⟨2, 0⟩ = 0 := by unfold errB; simp
  rw [if_pos he]
  rfl
theorem resU_end {out : List UInt8} {lost : Nat} (h2 : out.length ≤ 16) (h3 : lost ≤ 1099511627776) : resU [] out (lost : Nat) false ⟨2, 0⟩ = (newB, 0, 3) := by
  have hr : rgt ([] : List UInt8).length out.length (lost : Nat) false = true := decide_eq_true ⟨by simp, h2, by omega, by omega, by simp⟩
  unfold resU
  rw [if_pos hr]
  have hl : (lost : Int).toNat = lost := by omega
  rw [hl]
  have he : errB ⟨[], out, lost⟩ ⟨2, 0⟩ = 3 := by unfold errB; simp
  rw [if_neg (by rw [he]; decide), he]
/-- The step that reads. -/
theorem read_W {ia oa : Option Addr} {n ic m oc : Nat} {x : UInt8} {r out : List UInt8} (lost : Nat) (h1 : n + 1 ≤ 16) (h2 : m ≤ 16) (h3 : lost ≤ 1099511627776) (w : World) (hn : Hid (r.length = n)) (hm : Hid (out.length = m)) (H1 : Hid (shB.At w ia ic (x :: r))) (H2 : Hid (shB.At w oa oc out)) :
    Calls Try.prog 8 #[.agg #[.slice ia (n + 1) ic, .slice oa m oc, .int .i64 (lost : Nat), .bool true], .agg #[.int .i64 2, .int .u8 0]] w (StepOut w n m r out lost (decide (0 < n)) (ub x) 0) := by
  have h := step_W (n + 1) m (lost : Nat) true ⟨2, 0⟩ w (Lib.hid (by rw [List.length_cons, hn.out])) hm H1 H2
  unfold StepAll at h
  rw [resU_read (by rw [List.length_cons, hn.out]; exact h1) (by rw [hm.out]; exact h2) h3] at h
  simp only [hn.out, hm.out] at h
  exact h
theorem end_W {ia oa : Option Addr} {ic m oc : Nat} {out : List UInt8} (lost : Nat) (h2 : m ≤ 16) (h3 : lost ≤ 1099511627776) (w : World) (hm : Hid (out.length = m)) (H1 : Hid (shB.At w ia ic [])) (H2 : Hid (shB.At w oa oc out)) :
    Calls Try.prog 8 #[.agg #[.slice ia 0 ic, .slice oa m oc, .int .i64 (lost : Nat), .bool false], .agg #[.int .i64 2, .int .u8 0]] w (StepOut w 0 0 [] [] 0 false 0 3) := by
  have h := step_W 0 m (lost : Nat) false ⟨2, 0⟩ w (Lib.hid rfl) hm H1 H2
  unfold StepAll at h
  rw [resU_end (by rw [hm.out]; exact h2) h3] at h
  exact h
/-- What lies apart from the device's boxes reads as before. -/
theorem at_four {S : Shape UInt8} {W : World} {ad : Option Addr} {cap : Nat} {l : List UInt8} (h : S.At W ad cap l) {B : Nat} (x y z u : Value) (hne : 0 < l.length → ∀ a, ad = some a → a.block ≠ B) : S.At ((((W.setCell ⟨B, 0, none⟩ x).setCell ⟨B, 1, none⟩ y).setCell ⟨B, 2, none⟩ z).setCell ⟨B, 3, none⟩ u) ad cap l :=
  ⟨h.1, fun h0 => by
    obtain ⟨b, off, rfl, hb, hl⟩ := h.2 h0
    have hn : b ≠ B := hne h0 _ rfl
    refine ⟨b, off, rfl, by simpa using hb, fun k hk => ?_⟩
    rw [← hl k hk]
    exact World.cell?_of_block (a := ⟨b, off + k, none⟩) (four_other W x y z u hn)⟩
theorem byte_ne {W : World} {ad : Option Addr} {cap : Nat} {l : List UInt8} (h : shB.At W ad cap l) {B : Nat} {x y z u : Value} {t : TypeId} (hB : W.heap[B]? = some (.cells #[x, y, z, u] t (0, 0))) (hc : ∀ (k : Nat) (c : Value), (#[x, y, z, u] : Array Value)[k]? = some c → ∀ n : Int, c ≠ Value.int .u8 n) : 0 < l.length → ∀ a, ad = some a → a.block ≠ B := fun h0 a ha e => by
  obtain ⟨b, off, rfl, hb, hl⟩ := h.2 h0
  cases ha
  simp only at e
  subst e
  cases l with
  | nil => simp at h0
  | cons c r =>
    obtain ⟨b', off', e', _, c0⟩ := at_byte h (k := 0) (x := c) rfl
    cases e'
    rw [Nat.add_zero, cell_of_row _ _ _ _ _ _ hB] at c0
    exact hc _ _ c0 _ rfl
/-- A slice reads so, and lies apart from the row that grows. -/
structure Rd (wx : World) (gv : Value) (va : Option Addr) (vc j : Nat) (l : List UInt8) : Prop where
  a : shB.At wx va vc l
  p : 0 < l.length → Ap gv (.slice va j vc)
theorem Rd.step {wx wy : World} {gv : Value} {va : Option Addr} {vc j : Nat} {l : List UInt8} (h : Rd wx gv va vc j l) (hb : Below wx.heap.size wx wy) : Rd wy gv va vc j l := ⟨h.a.step hb, h.p⟩
theorem Rd.told {wx wy : World} {gv gv' : Value} {va : Option Addr} {vc j : Nat} {l : List UInt8} (h : Rd wx gv va vc j l) (hg : wx.grownBy wy gv.ownBlock) (hf : Fr wx gv gv') : Rd wy gv' va vc j l :=
  ⟨at_grown (n := j) h.a hg (fun h0 g h1 e => h.p h0 g e.symm h1), fun h0 g h1 h2 => by
    rcases hf g h1 with e | e
    · exact h.p h0 g e h2
    · obtain ⟨b, off, rfl, hlt, _⟩ := h.a.2 h0
      cases h2
      simp only at e
      omega⟩
/-- What is in memory while all is read: the device that came in, the one that is read from, what was told. -/
structure LpA (w wx : World) (V : Nat) (D : Array Value) (va : Option Addr) (vc : Nat) (ya : Option Addr) (yc : Nat) (gv : Value) (j i m lost : Nat) (rest got out : List UInt8) : Prop where
  b : Below w.heap.size w wx
  lt : w.heap.size < V
  u : wx.heap[w.heap.size]? = some (.cells D tU (0, 0))
  v : wx.heap[V]? = some (.cells #[.slice va j vc, .slice ya m yc, .int .i64 (lost : Nat), .bool (decide (0 < j))] tU (0, 0))
  a1 : Rd wx gv va vc j rest
  a2 : Rd wx gv ya yc m out
  g : Que shB wx w.heap.size tB gv i got
  l : rest.length = j
section
variable {w wx wy : World} {V : Nat} {D : Array Value} {va ya : Option Addr} {vc yc j i m lost : Nat} {gv : Value} {rest got out : List UInt8}
theorem LpA.step (h : LpA w wx V D va vc ya yc gv j i m lost rest got out) (hb : Below wx.heap.size wx wy) : LpA w wy V D va vc ya yc gv j i m lost rest got out :=
  ⟨pstep h.b hb, h.lt, heap_step h.u hb, heap_step h.v hb, h.a1.step hb, h.a2.step hb, que_step h.g hb, h.l⟩
theorem LpA.hc : ∀ (k : Nat) (c : Value), (#[.slice va j vc, .slice ya m yc, .int .i64 (lost : Nat), .bool (decide (0 < j))] : Array Value)[k]? = some c → ∀ n : Int, c ≠ Value.int .u8 n := fun k c hk n => by
  match k, hk with
  | 0, hk => cases hk; exact fun e => by cases e
  | 1, hk => cases hk; exact fun e => by cases e
  | 2, hk => cases hk; exact fun e => by cases e
  | 3, hk => cases hk; exact fun e => by cases e
  | k + 4, hk => simp at hk
/-- Another reading stays while the device is written. -/
theorem LpA.rd {l : List UInt8} {aa : Option Addr} {ac k : Nat} (h : LpA w wx V D va vc ya yc gv j i m lost rest got out) (hr : Rd wx gv aa ac k l) (x y z u : Value) : Rd ((((wx.setCell ⟨V, 0, none⟩ x).setCell ⟨V, 1, none⟩ y).setCell ⟨V, 2, none⟩ z).setCell ⟨V, 3, none⟩ u) gv aa ac k l :=
  ⟨at_four hr.a _ _ _ _ (byte_ne hr.a h.v LpA.hc), hr.p⟩
/-- The device is written. -/
theorem LpA.put {va' ya' : Option Addr} {vc' yc' j' : Nat} {rest' : List UInt8} (h : LpA w wx V D va vc ya yc gv j i m lost rest got out) (a1 : Rd wx gv va' vc' j' rest') (a2 : Rd wx gv ya' yc' m out) (l : rest'.length = j') :
    LpA w ((((wx.setCell ⟨V, 0, none⟩ (.slice va' j' vc')).setCell ⟨V, 1, none⟩ (.slice ya' m yc')).setCell ⟨V, 2, none⟩ (.int .i64 (lost : Nat))).setCell ⟨V, 3, none⟩ (.bool (decide (0 < j')))) V D va' vc' ya' yc' gv j' i m lost rest' got out := by
  have hlt := h.lt
  exact ⟨four_below _ _ _ _ h.b (by omega), hlt, (four_other wx _ _ _ _ (by omega)).trans h.u, four_set h.v, h.rd a1 _ _ _ _, h.rd a2 _ _ _ _, que_four h.g (que_ne h.g h.v (by decide)) _ _ _ _, l⟩
/-- One more was told. -/
theorem LpA.told {gv' : Value} {i' : Nat} {got' : List UInt8} (h : LpA w wx V D va vc ya yc gv j i m lost rest got out) (hg : wx.grownBy wy gv.ownBlock) (hq : Que shB wy w.heap.size tB gv' i' got') (hf : Fr wx gv gv') : LpA w wy V D va vc ya yc gv' j i' m lost rest got' out :=
  ⟨h.b.grown hg h.b.size (fun k hk => (que_lt h.g hk).1), h.lt, (hg.block _ (heap_lt h.u) (fun e => que_apart h.g _ _ _ h.u (by decide) e.symm)).trans h.u, (hg.block _ (heap_lt h.v) (fun e => que_apart h.g _ _ _ h.v (by decide) e.symm)).trans h.v,
    h.a1.told hg hf, h.a2.told hg hf, hq, h.l⟩
end
end Go.Proofs.Ytalcfbdnnlapnaa
