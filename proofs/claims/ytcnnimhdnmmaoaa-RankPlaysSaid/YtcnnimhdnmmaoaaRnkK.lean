/- Maps of numbers that tell a function: who holds, who waits. -/
import Derived.Test.YtcnnimhdnmmaoaaRnkI
import Derived.Maps.OwnSet
import Derived.Maps.RangeWalk
namespace Go.Proofs.Ytcnnimhdnmmaoaa
open Go.RowKit Go.Maps

theorem lawI : Keyed Try.prog 3 := int_keyed Try.underlying3
theorem zeroI (w : World) : (zeroValue 3).run Try.prog w = .ok (.int .i64 0) w := by kernel_rfl
abbrev Dt := DataW Unit
/-- A map's reading tells f, -1 being 'not there'. -/
structure TellsZ (D : Dt) (n : Nat) (f : Nat → Int) : Prop where
  has : ∀ i : Nat, i < n → Maps.has D (.int .i64 i) = !decide (f i = -1)
  at' : ∀ (i : Nat) (z : Dt), i < n → ¬ f i = -1 → D.atKey (.int .i64 i) z = .lit (.int .i64 (f i))
  only : ∀ kl, Maps.has D kl = true → ∃ i : Nat, i < n ∧ kl = .int .i64 i
theorem lit_ne {i j : Int} (h : ¬ i = j) : (Lit.int .i64 i) ≠ Lit.int .i64 j := fun e => h (by cases e; rfl)
theorem lit_ne' {i j : Nat} (h : ¬ i = j) : (Lit.int .i64 (i : Int)) ≠ Lit.int .i64 (j : Int) := lit_ne (by omega)
theorem tells_empty (n : Nat) : TellsZ (.map []) n (fun _ => -1) :=
  ⟨fun i _ => rfl, fun i z _ h => absurd rfl h, fun kl h => by cases h⟩
theorem TellsZ.put {D : Dt} {n i : Nat} {f : Nat → Int} (h : TellsZ D n f) (hD : IsMap D) (hi : i < n) {v : Int} (hv : ¬ v = -1) : TellsZ (D.put (.int .i64 i) (.lit (.int .i64 v))) n (upZ f i v) := by
  refine ⟨fun j hj => ?_, fun j z hj hn => ?_, fun kl hk => ?_⟩
  · by_cases e : j = i
    · subst e
      rw [has_put_same hD (show WideAt.IsKeyLit (.int .i64 (j : Int)) from trivial), upZ_same, decide_eq_false hv]
      rfl
    · rw [has_put_other (lit_ne' e), upZ_other e]
      exact h.has j hj
  · by_cases e : j = i
    · subst e
      rw [atKey_put_same hD (show WideAt.IsKeyLit (.int .i64 (j : Int)) from trivial), upZ_same]
    · rw [atKey_put_other (lit_ne' e), upZ_other e]
      rw [upZ_other e] at hn
      exact h.at' j z hj hn
  · by_cases e : kl = .int .i64 i
    · exact ⟨i, hi, e⟩
    · rw [has_put_other e] at hk
      exact h.only kl hk
theorem TellsZ.del {D : Dt} {n i : Nat} {f : Nat → Int} (h : TellsZ D n f) : TellsZ (D.del (.int .i64 i)) n (upZ f i (-1)) := by
  refine ⟨fun j hj => ?_, fun j z hj hn => ?_, fun kl hk => ?_⟩
  · by_cases e : j = i
    · subst e
      rw [has_del_same, upZ_same]
      rfl
    · rw [has_del_other (lit_ne' e), upZ_other e]
      exact h.has j hj
  · by_cases e : j = i
    · subst e
      rw [upZ_same] at hn
      exact absurd rfl hn
    · rw [atKey_del_other (lit_ne' e), upZ_other e]
      rw [upZ_other e] at hn
      exact h.at' j z hj hn
  · by_cases e : kl = .int .i64 i
    · rw [e, has_del_same] at hk
      cases hk
    · rw [has_del_other e] at hk
      exact h.only kl hk
/-- What a look-up gives. -/
def gotZ (f : Nat → Int) (i : Nat) : Int := if f i = -1 then 0 else f i
theorem TellsZ.got {D : Dt} {n i : Nat} {f : Nat → Int} (h : TellsZ D n f) (hi : i < n) {c : Int} (hc : D.atKey (.int .i64 i) (.lit (.int .i64 0)) = .lit (.int .i64 c)) : c = gotZ f i := by
  unfold gotZ
  by_cases e : f i = -1
  · have h1 := h.has i hi
    rw [decide_eq_true e] at h1
    rw [atKey_of_not_has h1] at hc
    rw [if_pos e]
    cases hc
    rfl
  · rw [h.at' i _ hi e] at hc
    rw [if_neg e]
    cases hc
    rfl
/-- Block b is a map of at most m entries that tells f. -/
def MapT (w : World) (b m n : Nat) (f : Nat → Int) : Prop := ∃ D : Dt, w.ownsMap Try.prog 3 (plainElem Try.prog 3) b m D ∧ TellsZ D n f
theorem own_same {w w' : World} {b m : Nat} {D : Dt} {R : Value → Option (Dt × List MemPlace)} (h : w.ownsMap Try.prog 3 R b m D) (e : w'.heap[b]? = w.heap[b]?) : w'.ownsMap Try.prog 3 R b m D := by
  obtain ⟨es, clock, hb, r⟩ := h
  exact ⟨es, clock, e.trans hb, r⟩
theorem MapT.same {w w' : World} {b m n : Nat} {f : Nat → Int} (h : MapT w b m n f) (e : w'.heap[b]? = w.heap[b]?) : MapT w' b m n f := by
  obtain ⟨D, h1, h2⟩ := h
  exact ⟨D, own_same h1 e, h2⟩
theorem MapT.lt {w : World} {b m n : Nat} {f : Nat → Int} (h : MapT w b m n f) : b < w.heap.size := by
  obtain ⟨D, h1, h2⟩ := h
  exact h1.lt
theorem MapT.step {w w' : World} {b m n : Nat} {f : Nat → Int} (h : MapT w b m n f) (hb : Below w.heap.size w w') : MapT w' b m n f := h.same (hb.block b h.lt)
theorem MapT.more {w : World} {b m m' n : Nat} {f : Nat → Int} (h : MapT w b m n f) (hm : m ≤ m') : MapT w b m' n f := by
  obtain ⟨D, h1, h2⟩ := h
  exact ⟨D, h1.mono hm, h2⟩
theorem MapT.isMap {w : World} {b m n : Nat} {f : Nat → Int} (h : MapT w b m n f) : ∃ es clock, w.heap[b]? = some (.map es clock) := by
  obtain ⟨D, ⟨es, clock, hb, _⟩, _⟩ := h
  exact ⟨es, clock, hb⟩
theorem mapT_ne {w : World} {b m n : Nat} {f : Nat → Int} (h : MapT w b m n f) {B t : Nat} {cs : Array Value} {fr : Nat × Nat} (hB : w.heap[B]? = some (.cells cs t fr)) : ¬ B = b := by
  obtain ⟨es, clock, hb⟩ := h.isMap
  rintro rfl
  rw [hB] at hb
  cases hb
/-- The call's own row is no map. -/
theorem own_nemap {w : World} {base e size k : Nat} {v : Value} {xs : List Value} (h : w.ownsRow base e size v k xs) {b m n : Nat} {f : Nat → Int} (hm : MapT w b m n f) : ∀ g, v.ownBlock = some g → g ≠ b := by
  intro g hg e0
  subst e0
  obtain ⟨h1, h2⟩ := h
  rcases h2 with ⟨rfl, _⟩ | ⟨g', cap, cur, hv, _, hh, r⟩
  · cases hg
  · rw [hv] at hg
    simp only [Value.ownBlock, Option.some.injEq] at hg
    subst hg
    exact mapT_ne hm hh rfl
/-- HPlay's variables. -/
structure Mp (w : World) (bt bl br m1 m2 h1 h2 n K : Nat) (rk : Bool) (m : Nat) (s : RkT) : Prop where
  t : w.heap[bt]? = some (.cells #[.int .i64 (n : Int)] 3 (0, 0))
  l : w.heap[bl]? = some (.cells #[.int .i64 (K : Int)] 3 (0, 0))
  r : w.heap[br]? = some (.cells #[.bool rk] 4 (0, 0))
  mh : MapT w m1 m K s.hold
  mw : MapT w m2 m n s.wait
  bh : w.heap[h1]? = some (.cells #[.map (some m1)] 44 (0, 0))
  bw : w.heap[h2]? = some (.cells #[.map (some m2)] 44 (0, 0))
  ne : ¬ m1 = m2
section
variable {w w' : World} {bt bl br m1 m2 h1 h2 n K m : Nat} {rk : Bool} {s : RkT}
theorem Mp.step (h : Mp w bt bl br m1 m2 h1 h2 n K rk m s) (hb : Below w.heap.size w w') : Mp w' bt bl br m1 m2 h1 h2 n K rk m s :=
  ⟨heap_step h.t hb, heap_step h.l hb, heap_step h.r hb, h.mh.step hb, h.mw.step hb, heap_step h.bh hb, heap_step h.bw hb, h.ne⟩
theorem Mp.more (h : Mp w bt bl br m1 m2 h1 h2 n K rk m s) {m' : Nat} (hm : m ≤ m') : Mp w bt bl br m1 m2 h1 h2 n K rk m' s :=
  ⟨h.t, h.l, h.r, h.mh.more hm, h.mw.more hm, h.bh, h.bw, h.ne⟩
theorem Mp.setH (h : Mp w bt bl br m1 m2 h1 h2 n K rk m s) {m' : Nat} {f : Nat → Int} (hg : w.grownBy w' (some m1)) (hm : MapT w' m1 m' K f) (hmm : m ≤ m') : Mp w' bt bl br m1 m2 h1 h2 n K rk m' ⟨f, s.wait⟩ := by
  have e : ∀ {b t : Nat} {cs : Array Value} {fr : Nat × Nat}, w.heap[b]? = some (.cells cs t fr) → w'.heap[b]? = some (.cells cs t fr) := fun hb => (hg.block _ (heap_lt hb) (fun e => mapT_ne h.mh hb (Option.some.inj e))).trans hb
  exact ⟨e h.t, e h.l, e h.r, hm, (h.mw.same (hg.block _ h.mw.lt (fun e => h.ne (Option.some.inj e).symm))).more hmm, e h.bh, e h.bw, h.ne⟩
theorem Mp.setW (h : Mp w bt bl br m1 m2 h1 h2 n K rk m s) {m' : Nat} {f : Nat → Int} (hg : w.grownBy w' (some m2)) (hm : MapT w' m2 m' n f) (hmm : m ≤ m') : Mp w' bt bl br m1 m2 h1 h2 n K rk m' ⟨s.hold, f⟩ := by
  have e : ∀ {b t : Nat} {cs : Array Value} {fr : Nat × Nat}, w.heap[b]? = some (.cells cs t fr) → w'.heap[b]? = some (.cells cs t fr) := fun hb => (hg.block _ (heap_lt hb) (fun e => mapT_ne h.mw hb (Option.some.inj e))).trans hb
  exact ⟨e h.t, e h.l, e h.r, (h.mh.same (hg.block _ h.mh.lt (fun e => h.ne (Option.some.inj e)))).more hmm, hm, e h.bh, e h.bw, h.ne⟩
end
theorem Turned.grown {w0 w w' w'' : World} {H T b : Nat} (h : Turned w0 w w' H T) (hg : w'.grownBy w'' (some b)) (hb : b = H ∨ b = T) (hl : w0.heap.size ≤ b) : Turned w0 w w'' H T :=
  ⟨h.b.grown hg h.b.size (fun k hk => by cases hk; exact hl), fun c h1 h2 h3 => (hg.block c (Nat.lt_of_lt_of_le h3 h.z) (fun e => by have := Option.some.inj e; omega)).trans (h.o c h1 h2 h3), Nat.le_trans h.z hg.size⟩
theorem map_new (w : World) (n : Nat) : MapT (w.alloc (.map #[] 0)) w.heap.size 0 n (fun _ => -1) := ⟨.map [], World.ownsMap_made _ _ _ _, tells_empty _⟩
end Go.Proofs.Ytcnnimhdnmmaoaa
