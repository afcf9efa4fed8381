/- A range over an iterator that is known to give just one sequence, whose rounds all go on to their end: the round may count on what has come so far (the library's law tells it only how many have come). Generic: no function of the project in sight. -/
import Derived.RangeFuncNested
import Derived.RangeFuncBound
import Derived.RangeFuncCalls
import Derived.RangeFuncLeaves
import Derived.RangeFuncBox
import Derived.OwnWalkIn
import Derived.Test.YtgnpodeneknpdaaMem
namespace Go.Proofs.Ytgnpodeneknpdaa
open Go.RowKit

variable {F : Fence} {n : Nat} {P : Program}
/-- The iterator gives the sequence, whatever the rounds do that keep Kp. -/
def SeqX {α : Type} (F : Fence) (n : Nat) (P : Program) (f : Nat) (lb : Array Value) (encs : α → Array Value) (Kp : World → World → Prop) (seq : List α) (w : World) : Prop :=
  ∀ (l : Nat) (J : List α → World → Prop) (W : World), Below w.heap.size w W →
    (∀ pre x W1, pre ++ [x] <+: seq → J pre W1 → YieldAt F (n - 1) P l (encs x) W1 fun e W' => e = .returned (.bool true) ∧ J (pre ++ [x]) W' ∧ Kp W1 W') →
    J [] W → CallsIn F n P f (#[.func (.yield l) #[] #[]] ++ lb) W fun e W' => (∃ v, e = .returned v) ∧ J seq W'
/-- The round's end. -/
def EndX (R : World → Prop) : Exit → Act → World → Prop
  | .normal, _, w => R w
  | _, _, _ => False
/-- The two objects that a range lays: its record, and the block of deferred calls. -/
structure RecX (w W : World) (r : Loop) : Prop where
  rec_ : W.heap[w.heap.size + 1]? = some (.loop r)
  def_ : W.heap[w.heap.size]? = some (.deferred (some []))
theorem RecX.lt {w W : World} {r : Loop} (h : RecX w W r) : w.heap.size + 1 < W.heap.size := heap_lt h.rec_
theorem RecX.keep {w W W' : World} {r : Loop} (h : RecX w W r) (k : KeepsFrom w.heap.size W W') : RecX w W' r := ⟨k.same _ _ (by omega) h.rec_ rfl, k.same _ _ (Nat.le_refl _) h.def_ rfl⟩
theorem RecX.put {w W : World} {r : Loop} (h : RecX w W r) (r' : Loop) : RecX w (W.putObj (w.heap.size + 1) (.loop r')) r' :=
  ⟨World.putObj_heap_same h.lt, (World.putObj_heap_other (by omega)).trans h.def_⟩
theorem rangeX {α : Type} {g : Operand} {ps : Array Tmp} {assign body : Code} {Q : Exit → Act → World → Prop} {a : Act} {w : World}
    (hro : F.round = none) (h1 : 1 ≤ n) {f : Nat} {lb : Array Value} (hg : a.eval g = .func (.func f) #[] lb) (hf : F.fn f) (hen : ∀ args w, (callFunc f args).run P w = .ok (.enter f args) w)
    {encs : α → Array Value} {Kp : World → World → Prop} {seq : List α} (hseq : SeqX F (n - 1) P f lb encs Kp seq w)
    (hKt : ∀ {A B C : World}, Kp A B → Kp B C → Kp A C) (hKb : ∀ (W : World) (l : Nat) (o o' : Obj), w.heap.size ≤ l → W.heap[l]? = some o → o.isCells = false → o.isWalk = false → Kp W (W.putObj l o')) (hps : ∀ x, (encs x).size = ps.size)
    (I : List α → World → Prop) (hI : OwnFrom w.heap.size I) (h0 : I [] w) (a1 : α → Act)
    (hassign : ∀ (l : Nat) (x : α) (W : World) (K : Act → World → Prop), K (a1 x) W → assign.wpIn (F.inRound l) (n - 1 - 1) P (Exit.then K (fun _ _ _ => False)) { tmps := (ps.zip (encs x)).foldl (fun t (p, v) => t.setIfInBounds p v) a.tmps, defers := [] } W)
    (hbody : ∀ (l : Nat) (pre : List α) (x : α) (W : World), pre ++ [x] <+: seq → I pre W → body.wpIn (F.inRound l) (n - 1 - 1) P (EndX fun W' => KeepsFrom w.heap.size W W' ∧ Kp W W' ∧ I (pre ++ [x]) W') (a1 x) W)
    (hdone : ∀ (D : Nat) (W : World), w.heap.size ≤ D → I seq W → W.heap[D]? = some (.deferred (some [])) → Q .normal { a with defers := { target := .collected D, args := #[] } :: a.defers } W) :
    (Code.rangeFunc g ps assign body).wpIn F n P Q a w := by
  refine wpIn_rangeFunc fun fn hfn => ?_
  rw [hro]
  let rc : LoopState → Loop := fun st => { state := st, pending := none, fn, tmps := a.tmps, params := ps, assign, body, defers := w.heap.size }
  let W0 := (w.alloc (.deferred (some []))).alloc (.loop (rc .ready))
  have hB0 : Below w.heap.size w W0 := below_two w _ _
  have hR0 : RecX w W0 (rc .ready) := by
    have e1 := heap_alloc_new (w.alloc (.deferred (some []))) (.loop (rc .ready))
    rw [World.size_alloc] at e1
    exact ⟨e1, heap_step (heap_alloc_new w _) (below_alloc _ _)⟩
  refine ⟨w.heap.size + 1, [{ target := .collected w.heap.size, args := #[] }], W0, { target := .fn (.func f) lb, args := #[.func (.yield (w.heap.size + 1)) #[] #[]] }, W0, f, #[.func (.yield (w.heap.size + 1)) #[] #[]] ++ lb, W0, run_enterLoop_outer _ _ _ _ _, ?_, ?_, ?_, fun _ => h1, ?_⟩
  · simp only [resolve, hg]
    simp [go_sem]
  · intro f' hf'
    simp [Target.leads] at hf'
    subst hf'
    exact hf
  · simp [invoke, go_sem, hen]
  · refine (hseq (w.heap.size + 1) (fun pre W => I pre W ∧ RecX w W (rc .ready)) W0 hB0 ?_ ⟨hI.alloc _ (hI.alloc _ h0), hR0⟩).mono ?_
    · rintro pre x W hpre ⟨hi, hr⟩
      have hy := run_yield (P := P) (args := encs x) hr.rec_ (hps x)
      refine ⟨_, _, _, _, hy, roundIn_of_wpIn hfn (hassign _ x W _ ⟨_, run_beginRound hr.rec_ rfl, ?_⟩)⟩
      have hr2 := hr.put (rc .busy)
      refine wpIn_mono (hbody _ pre x _ hpre (hI.putObj _ hi (by omega) hr.rec_ rfl)) ?_
      rintro e a3 W3 hp
      cases e with
      | normal =>
        obtain ⟨k3, p3, i3⟩ := hp
        have hr3 := hr2.keep k3
        refine ⟨_, _, run_endRound none hr3.rec_, rfl, ⟨hI.putObj _ i3 (by omega) hr3.rec_ rfl, hr3.put (rc .ready)⟩, ?_⟩
        exact hKt (hKt (hKb _ _ _ _ (by omega) hr.rec_ rfl rfl) p3) (hKb _ _ _ _ (by omega) hr3.rec_ rfl rfl)
      | ret => exact hp.elim
      | exit id => exact hp.elim
      | goto t => exact hp.elim
      | panic ch => exact hp.elim
      | outgrown => exact hp.elim
    · rintro e W2 ⟨⟨v, rfl⟩, hi, hr⟩
      exact ⟨none, _, run_endLoop hr.rec_ (by simp [rc]), hdone _ _ (Nat.le_refl _) (hI.putObj _ hi (by omega) hr.rec_ rfl) ((World.putObj_heap_other (by omega)).trans hr.def_)⟩
end Go.Proofs.Ytgnpodeneknpdaa
