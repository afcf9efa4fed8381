/- Package cores: slices.EqualFunc of rows; corebellkeep.alive14. -/
import Derived.Test.YtningajaimbncaaCorI
import Derived.Test.YtningajaimbncaaEqN
namespace Go.Proofs.Ytningajaimbncaa
open Go.RowKit

/-- A question that tells rows alike that are. -/
def Alike (g : Nat) : Prop := ∀ (a1 a2 : Option Addr) (c1 c2 n : Nat) (l : List Int) (W : World), l.length = n → n ≤ 1000 → shI.At W a1 c1 l → shI.At W a2 c2 l →
  Calls Try.prog g (#[.slice a1 n c1, .slice a2 n c2] ++ #[]) W fun e w' => e = .returned (.bool true) ∧ ∃ q, w' = W.drewN q
set_option maxHeartbeats 1000000 in
set_option maxRecDepth 100000 in
theorem equalF_W (g : Nat) (eg : ∀ args w, (callFunc g args).run Try.prog w = .ok (.enter g args) w) (HG : Hid (Alike g)) {a1 a2 : Option Addr} {c1 c2 n : Nat} {rows : Nat → List Int} (w : World) (H1 : Hid (RunsAt w a1 c1 n rows)) (H2 : Hid (RunsAt w a2 c2 n rows)) (hn : n ≤ 9223372036854775807) (HL : Hid (∀ t, (rows t).length ≤ 1000)) :
    Calls Try.prog 11 #[.slice a1 n c1, .slice a2 n c2, .func (.func g) #[] #[]] w fun e w' => e = .returned (.bool true) ∧ Below w.heap.size w w' := by
  go_enter Try.func11, Try.ntmps11
  go_wp2_with fail
  go_loopw [17] (fun i wr => ∃ t : Nat, t ≤ n ∧ i = .int .i64 t ∧ ∃ q, wr = w.drewN q) (fun i _ => n - (intOf i).toNat)
  case atStart => exact ⟨0, Nat.zero_le _, rfl, 0, rfl⟩
  case round =>
    obtain ⟨t, ht, rfl, q, hw⟩ := hrel
    have HW := Lib.hid hw
    have hB : Below w.heap.size w wr := by rw [hw]; exact below_drewN (Below.refl _ _) q
    by_cases hlt : t < n
    · obtain ⟨b1, o1, p1, d1, rfl, hb1, e1, A1⟩ := (H1.out.step hB).2 t hlt
      obtain ⟨b2, o2, p2, d2, rfl, hb2, e2, A2⟩ := (H2.out.step hB).2 t hlt
      obtain ⟨k, hk⟩ : ∃ k, (rows t).length = k := ⟨_, rfl⟩
      have hcall := HG.out p1 p2 d1 d2 k (rows t) wr hk (by rw [← hk]; exact HL.out t) A1 A2
      rw [hk] at e1 e2
      clear A1 A2 hk hw
      go_wp2_with (go_at_fn g; refine hcall.mono ?_; rintro e w' ⟨rfl, qq, rfl⟩)
      go_roundw
      case rel => exact ⟨t + 1, by omega, by go_num, q + qq, by rw [HW.out]; simp [World.drewN, Nat.add_assoc]⟩
      case measure => simp [intOf]; omega
    · obtain rfl : t = n := by omega
      have HB := Lib.hid hB
      clear hlt ht hw hB
      go_wp2_with fail
      go_ret
      exact ⟨rfl, HB.out⟩
set_option maxHeartbeats 1000000 in
theorem alike_al : Alike 29 := by
  intro a1 a2 c1 c2 n l W hl hn h1 h2
  show Calls Try.prog 29 #[.slice a1 n c1, .slice a2 n c2] W _
  have HQ := Lib.hid (equalQ W (Lib.hid hl) (Lib.hid h1) (Lib.hid h2) (by omega))
  go_enter Try.func29, Try.ntmps29
  go_wp2_with (first
    | (go_at_call 14; (with_reducible refine HQ.out.mono ?_); rintro e w1 ⟨rfl, q, rfl⟩)
    | fail)
  go_ret
  exact ⟨rfl, q, rfl⟩
def alT : List ThT := [⟨0, 0, 3⟩, ⟨0, 0, 9⟩, ⟨5, 3, 1⟩]
theorem al_run : (List.range 7).map (thN alT 1 2).runN = [[0], [0], [1], [1], [0], [2], [1]] := by decide +kernel
def alR (t : Nat) : List Int := [[0, 0, 1, 1, 0, 2, 1].getD t 0]
theorem al_seven {T : ThN} (h : (List.range 7).map T.runN = [[0], [0], [1], [1], [0], [2], [1]]) (t : Nat) (ht : t < 7) : rowN T t = alR t := by
  obtain ⟨f, hf⟩ : ∃ f, T.runN = f := ⟨_, rfl⟩
  rw [hf] at h
  unfold rowN
  rw [hf]
  have h' : [f 0, f 1, f 2, f 3, f 4, f 5, f 6] = [[0], [0], [1], [1], [0], [2], [1]] := h
  simp only [List.cons.injEq, and_true] at h'
  obtain ⟨h0, h1, h2, h3, h4, h5, h6⟩ := h'
  have hc : t = 0 ∨ t = 1 ∨ t = 2 ∨ t = 3 ∨ t = 4 ∨ t = 5 ∨ t = 6 := by omega
  rcases hc with rfl | rfl | rfl | rfl | rfl | rfl | rfl
  · rw [h0]; simp [sortI, alR]
  · rw [h1]; simp [sortI, alR]
  · rw [h2]; simp [sortI, alR]
  · rw [h3]; simp [sortI, alR]
  · rw [h4]; simp [sortI, alR]
  · rw [h5]; simp [sortI, alR]
  · rw [h6]; simp [sortI, alR]
theorem al_rows (t : Nat) (ht : t < 7) : rowN (thN alT 1 2) t = alR t := al_seven al_run t ht
/-- Blocks laid one behind the other. -/
def layW : World → List Obj → World
  | w, [] => w
  | w, o :: r => layW (w.alloc o) r
theorem layW_below : ∀ (os : List Obj) (w : World), Below w.heap.size w (layW w os)
  | [], _ => Below.refl _ _
  | o :: r, w => pstep (below_alloc w o) (layW_below r _)
theorem layW_at : ∀ (os : List Obj) (w : World) (i : Nat) (o : Obj), os[i]? = some o → (layW w os).heap[w.heap.size + i]? = some o
  | [], _, i, o, h => by simp at h
  | o' :: r, w, 0, o, h => by
    simp at h
    subst h
    exact heap_step (heap_alloc_new w o') (layW_below r _)
  | o' :: r, w, i + 1, o, h => by
    have := layW_at r (w.alloc o') i o (by simpa using h)
    rw [World.size_alloc] at this
    rw [show w.heap.size + (i + 1) = w.heap.size + 1 + i by omega]
    exact this
def litO (w : World) : List Obj := [.cells #[.int .i64 0] 3, .cells #[.int .i64 0] 3, .cells #[.int .i64 1] 3, .cells #[.int .i64 1] 3, .cells #[.int .i64 0] 3, .cells #[.int .i64 2] 3, .cells #[.int .i64 1] 3,
  .cells #[.slice (some ⟨w.heap.size, 0, none⟩) 1 1, .slice (some ⟨w.heap.size + 1, 0, none⟩) 1 1, .slice (some ⟨w.heap.size + 1 + 1, 0, none⟩) 1 1, .slice (some ⟨w.heap.size + 1 + 1 + 1, 0, none⟩) 1 1, .slice (some ⟨w.heap.size + 1 + 1 + 1 + 1, 0, none⟩) 1 1, .slice (some ⟨w.heap.size + 1 + 1 + 1 + 1 + 1, 0, none⟩) 1 1, .slice (some ⟨w.heap.size + 1 + 1 + 1 + 1 + 1 + 1, 0, none⟩) 1 1] 29]
theorem lit_at (w : World) : RunsAt (layW w (litO w)) (some ⟨w.heap.size + 1 + 1 + 1 + 1 + 1 + 1 + 1, 0, none⟩) 7 7 alR := by
  have hE := layW_at (litO w) w 7 _ rfl
  have hrow : ∀ (i : Nat) (x : Int), (litO w)[i]? = some (.cells #[.int .i64 x] 3) → ∀ c, shI.At (layW w (litO w)) (some ⟨w.heap.size + i, 0, none⟩) c [x] := fun i x h c => Shape.At.lit (S := shI) [x] (layW_at (litO w) w i _ h)
  refine ⟨(fun e => by cases e), fun t ht => ?_⟩
  have hc : t = 0 ∨ t = 1 ∨ t = 2 ∨ t = 3 ∨ t = 4 ∨ t = 5 ∨ t = 6 := by omega
  rcases hc with rfl | rfl | rfl | rfl | rfl | rfl | rfl
  · exact ⟨_, 0, _, 1, rfl, heap_lt hE, by rw [cell_of_row _ _ _ _ _ _ hE]; rfl, hrow 0 0 rfl 1⟩
  · exact ⟨_, 0, _, 1, rfl, heap_lt hE, by rw [cell_of_row _ _ _ _ _ _ hE]; rfl, hrow 1 0 rfl 1⟩
  · exact ⟨_, 0, _, 1, rfl, heap_lt hE, by rw [cell_of_row _ _ _ _ _ _ hE]; rfl, hrow 2 1 rfl 1⟩
  · exact ⟨_, 0, _, 1, rfl, heap_lt hE, by rw [cell_of_row _ _ _ _ _ _ hE]; rfl, hrow 3 1 rfl 1⟩
  · exact ⟨_, 0, _, 1, rfl, heap_lt hE, by rw [cell_of_row _ _ _ _ _ _ hE]; rfl, hrow 4 0 rfl 1⟩
  · exact ⟨_, 0, _, 1, rfl, heap_lt hE, by rw [cell_of_row _ _ _ _ _ _ hE]; rfl, hrow 5 2 rfl 1⟩
  · exact ⟨_, 0, _, 1, rfl, heap_lt hE, by rw [cell_of_row _ _ _ _ _ _ hE]; rfl, hrow 6 1 rfl 1⟩
theorem al_ok : OkT alT 1 2 := ⟨by decide, by decide, by decide, by decide, by decide, fun t ht => by
  simp only [alT, List.mem_cons, List.not_mem_nil, or_false] at ht
  rcases ht with rfl | rfl | rfl <;> simp⟩
theorem RunsAt.congr {w : World} {ad : Option Addr} {cap n : Nat} {f g : Nat → List Int} (h : RunsAt w ad cap n f) (e : ∀ t, t < n → f t = g t) : RunsAt w ad cap n g :=
  ⟨h.1, fun t ht => by rw [← e t ht]; exact h.2 t ht⟩
theorem alPlay {b : Nat} (w : World) (HA : Hid (shT.At w (some ⟨b, 0, none⟩) 3 alT)) :
    Calls Try.prog 8 #[.int .i64 1, .int .i64 2, .slice (some ⟨b, 0, none⟩) 3 3, .int .i64 7] w (RunOut w 7 alR) := by
  refine (run_ok (c := 1) (sl := 2) 7 w HA (Lib.hid rfl) (Lib.hid al_ok) (by decide)).mono ?_
  rintro e w' ⟨E, rfl, h1, h2⟩
  exact ⟨E, rfl, h1.congr al_rows, h2⟩
set_option maxHeartbeats 1000000 in
set_option maxRecDepth 100000 in
theorem alive14_N (w : World) : Calls Try.prog 15 #[] w fun e w' => e = .returned (.bool true) ∧ Below w.heap.size w w' := by
  have B0 := Lib.hid (below_alloc w (.cells (shT.flat alT).toArray 35))
  have HO : Hid (shT.At (w.alloc (.cells (shT.flat alT).toArray 35)) (some ⟨w.heap.size, 0, none⟩) 3 alT) := Lib.hid (Shape.At.lit alT (heap_alloc_new w _))
  have eT : (shT.flat alT).toArray = #[.int .i64 0, .int .i64 0, .int .i64 3, .int .i64 0, .int .i64 0, .int .i64 9, .int .i64 5, .int .i64 3, .int .i64 1] := rfl
  rw [eT] at B0 HO
  have eg : ∀ args w, (callFunc 29 args).run Try.prog w = .ok (.enter 29 args) w := enters_of Try.func29 (by kernel_rfl) rfl
  have HG := Lib.hid alike_al
  go_enter Try.func15, Try.ntmps15
  go_wp2_with (first
    | (go_at_call 8; (with_reducible refine (alPlay _ HO).mono ?_); rintro e w1 ⟨E, rfl, hE, hb⟩; have B1 := Lib.hid (pstep B0.out hb); have E1 := Lib.hid hE; clear hb hE)
    | fail)
  have B2 := layW_below (litO w1) w1
  have X2 := Lib.hid (lit_at w1)
  have E2 := Lib.hid (E1.out.step B2)
  have HB2 := Lib.hid (pstep B1.out B2)
  clear B2
  unfold litO layW layW layW layW layW layW layW layW layW at X2 E2 HB2
  have HRL : Hid (∀ t, (alR t).length ≤ 1000) := Lib.hid fun t => by simp [alR]
  refine (equalF_W 29 eg HG _ E2 X2 (by decide) HRL).mono ?_
  rintro e w3 ⟨rfl, hb3⟩
  have B3 := Lib.hid (pstep HB2.out hb3)
  clear hb3
  go_wp2_with fail
  go_ret
  exact ⟨rfl, B3.out⟩
end Go.Proofs.Ytningajaimbncaa
