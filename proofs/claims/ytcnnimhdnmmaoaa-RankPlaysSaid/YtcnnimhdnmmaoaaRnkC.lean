/- Package rank: the walks of check and perform. -/
import Derived.Test.YtcnnimhdnmmaoaaRnkB
import Derived.RegionTactic
namespace Go.Proofs.Ytcnnimhdnmmaoaa
open Go.RowKit

section
variable {w : World} {B H T K n : Nat} {rk : Bool} {s : RkT}
set_option maxHeartbeats 2000000 in
theorem check_N (HS : Hid (StK w B H T K n rk s)) (hK : K ≤ 16) (kind th lk : Int) (x : Int) (hx : Hid (errK n K rk s kind th lk = x)) :
    Calls Try.prog 19 #[.pointer (some ⟨B, 0, none⟩), .agg #[.int .i64 kind, .int .i64 th, .int .i64 lk]] w fun e w' => e = .returned (.int .i64 x) ∧ Below w.heap.size w w' := by
  have B0 := Lib.hid (below_alloc w (.cells #[.int .i64 kind, .int .i64 th, .int .i64 lk] 35))
  have HS1 := Lib.hid (HS.out.step B0.out)
  obtain ⟨c0, c1, c2⟩ := trio_at HS.out.b
  have hBlt := heap_lt HS.out.b
  have hX := hx.out
  unfold errK at hX
  clear hx
  by_cases k1 : kind = 1 ∨ kind = 2
  · rw [if_neg (fun h => h k1)] at hX
    by_cases r1 : 0 ≤ th ∧ th < n
    · have W1 : Hid (true = decide (0 ≤ th ∧ th < (n : Int))) := Lib.hid (decide_eq_true r1).symm
      by_cases r2 : 0 ≤ lk ∧ lk < K
      · have W2 : Hid (true = decide (0 ≤ lk ∧ lk < (K : Int))) := Lib.hid (decide_eq_true r2).symm
        rw [if_neg (by omega)] at hX
        obtain ⟨t, rfl⟩ : ∃ t : Nat, th = t := ⟨th.toNat, by omega⟩
        obtain ⟨l, rfl⟩ : ∃ l : Nat, lk = l := ⟨lk.toNat, by omega⟩
        rw [Int.toNat_natCast, Int.toNat_natCast] at hX
        have ht : t < n := by omega
        have hl : l < K := by omega
        clear r1 r2
        rcases k1 with rfl | rfl
        · rw [if_neg (by decide)] at hX
          have HX : Hid (takeX K rk s t l = x) := Lib.hid hX
          clear hX
          go_enter Try.func19, Try.ntmps19
          go_wp2_with fail
          go_quiet ((go_at_call 27; first | with_reducible exact Calls.quiet_of_same (within_Q _ _ true W1) | with_reducible exact Calls.quiet_of_same (within_Q _ _ true W2)))
          go_wp2_with (first
            | (go_at_call 29; (with_reducible refine (checkTake_N (Lib.hid (HS1.out.step (below_drewN (Below.refl _ _) _))) hK t l ht hl x HX).mono ?_); rintro e w1 ⟨rfl, rfl⟩)
            | fail)
          go_ret
          exact ⟨rfl, below_drewN B0.out _⟩
        · rw [if_pos rfl] at hX
          have HX : Hid ((if ¬ s.hold l = t ∨ ¬ s.wait t = -1 then (3 : Int) else 0) = x) := Lib.hid hX
          clear hX
          go_enter Try.func19, Try.ntmps19
          go_wp2_with fail
          go_quiet ((go_at_call 27; first | with_reducible exact Calls.quiet_of_same (within_Q _ _ true W1) | with_reducible exact Calls.quiet_of_same (within_Q _ _ true W2)))
          go_wp2_with (first
            | (go_at_call 28; (with_reducible refine (checkGive_N (Lib.hid (HS1.out.step (below_drewN (Below.refl _ _) _))) t l ht hl x HX).mono ?_); rintro e w1 ⟨rfl, rfl⟩)
            | fail)
          go_ret
          exact ⟨rfl, below_drewN B0.out _⟩
      · have W2 : Hid (false = decide (0 ≤ lk ∧ lk < (K : Int))) := Lib.hid (decide_eq_false r2).symm
        obtain rfl : x = 2 := by rw [← hX, if_pos (by omega)]
        clear hX r1 r2
        rcases k1 with rfl | rfl
        · go_enter Try.func19, Try.ntmps19
          go_wp2_with fail
          go_quiet ((go_at_call 27; first | with_reducible exact Calls.quiet_of_same (within_Q _ _ true W1) | with_reducible exact Calls.quiet_of_same (within_Q _ _ false W2)))
          go_wp2_with fail
          go_ret
          exact ⟨rfl, below_drewN B0.out _⟩
        · go_enter Try.func19, Try.ntmps19
          go_wp2_with fail
          go_quiet ((go_at_call 27; first | with_reducible exact Calls.quiet_of_same (within_Q _ _ true W1) | with_reducible exact Calls.quiet_of_same (within_Q _ _ false W2)))
          go_wp2_with fail
          go_ret
          exact ⟨rfl, below_drewN B0.out _⟩
    · have W1 : Hid (false = decide (0 ≤ th ∧ th < (n : Int))) := Lib.hid (decide_eq_false r1).symm
      obtain rfl : x = 2 := by rw [← hX, if_pos (by omega)]
      clear hX r1
      rcases k1 with rfl | rfl
      · go_enter Try.func19, Try.ntmps19
        go_wp2_with fail
        go_quiet ((go_at_call 27; with_reducible exact Calls.quiet_of_same (within_Q _ _ false W1)))
        go_wp2_with fail
        go_ret
        exact ⟨rfl, below_drewN B0.out _⟩
      · go_enter Try.func19, Try.ntmps19
        go_wp2_with fail
        go_quiet ((go_at_call 27; with_reducible exact Calls.quiet_of_same (within_Q _ _ false W1)))
        go_wp2_with fail
        go_ret
        exact ⟨rfl, below_drewN B0.out _⟩
  · rw [if_pos k1] at hX
    subst hX
    have k2 : ¬ kind = 1 := fun h => k1 (Or.inl h)
    have k3 : ¬ kind = 2 := fun h => k1 (Or.inr h)
    have k4 : (kind != 1) = true := by simpa using k2
    have k5 : (kind != 2) = true := by simpa using k3
    clear k1
    go_enter Try.func19, Try.ntmps19
    go_wp2_with fail
    go_ret
    exact ⟨rfl, B0.out⟩
/-- Only the two rows have turned, and there is more. -/
structure Turned (w0 w w' : World) (H T : Nat) : Prop where
  b : Below w0.heap.size w0 w'
  o : ∀ b, ¬ b = H → ¬ b = T → b < w.heap.size → w'.heap[b]? = w.heap[b]?
  z : w.heap.size ≤ w'.heap.size
theorem StK.neB (h : StK w B H T K n rk s) : ¬ B = H ∧ ¬ B = T := by
  have hb := h.b
  obtain ⟨c1, h1, _⟩ := h.h
  obtain ⟨c2, h2, _⟩ := h.t
  refine ⟨?_, ?_⟩
  · rintro rfl
    rw [hb] at h1
    simp at h1
  · rintro rfl
    rw [hb] at h2
    simp at h2
theorem StK.setT (h : StK w B H T K n rk s) {t : Nat} (ht : t < n) (v : Int) : StK (w.setCell ⟨T, t, none⟩ (.int .i64 v)) B H T K n rk ⟨s.hold, upZ s.wait t v⟩ :=
  ⟨(Below.heap_setCell _ _ _ _ h.neB.2).trans h.b, h.h.other h.ne _, h.t.put ht v, h.ne⟩
theorem StK.setH (h : StK w B H T K n rk s) {l : Nat} (hl : l < K) (v : Int) : StK (w.setCell ⟨H, l, none⟩ (.int .i64 v)) B H T K n rk ⟨upZ s.hold l v, s.wait⟩ :=
  ⟨(Below.heap_setCell _ _ _ _ h.neB.1).trans h.b, h.h.put hl v, h.t.other (fun e => h.ne e.symm) _, h.ne⟩
theorem Turned.set {w0 w w' : World} (h : Turned w0 w w' H T) {a : Addr} (ha : w0.heap.size ≤ a.block) (hb : a.block = H ∨ a.block = T) (v : Value) : Turned w0 w (w'.setCell a v) H T :=
  ⟨h.b.setCell ha v, fun b h1 h2 h3 => (Below.heap_setCell _ _ _ _ (by rcases hb with e | e <;> rw [e] <;> assumption)).trans (h.o b h1 h2 h3), by simpa using h.z⟩
theorem Turned.step {w0 w w' w'' : World} (h : Turned w0 w w' H T) (hb : Below w'.heap.size w' w'') : Turned w0 w w'' H T :=
  ⟨h.b.trans (hb.mono h.b.size), fun b h1 h2 h3 => (hb.block b (Nat.lt_of_lt_of_le h3 h.z)).trans (h.o b h1 h2 h3), Nat.le_trans h.z hb.size⟩
theorem turned_refl {w0 : World} (h : Below w0.heap.size w0 w) : Turned w0 w w H T := ⟨h, fun _ _ _ _ => rfl, Nat.le_refl _⟩
set_option maxHeartbeats 2000000 in
theorem perform_N {w0 : World} (HS : Hid (StK w B H T K n rk s)) (HB : Hid (Below w0.heap.size w0 w)) (hH : w0.heap.size ≤ H) (hT : w0.heap.size ≤ T) (kind th lk : Int) (x : Int) (hx : Hid (errK n K rk s kind th lk = x)) :
    Calls Try.prog 20 #[.pointer (some ⟨B, 0, none⟩), .agg #[.int .i64 kind, .int .i64 th, .int .i64 lk], .int .i64 x] w fun e w' => e = .returned (.tuple #[]) ∧ StK w' B H T K n rk (newK x s kind th lk) ∧ Turned w0 w w' H T := by
  have B0 := below_alloc w (.cells #[.int .i64 kind, .int .i64 th, .int .i64 lk] 35)
  have HS1 := Lib.hid (HS.out.step B0)
  have T1 := Lib.hid ((turned_refl (H := H) (T := T) HB.out).step B0)
  obtain ⟨c0, c1, c2⟩ := trio_at HS.out.b
  have hBlt := heap_lt HS.out.b
  have hHlt := HS.out.h.lt
  have hTlt := HS.out.t.lt
  have n1 := HS.out.neB.1
  have n2 := HS.out.neB.2
  have n3 := HS.out.ne
  clear B0
  rcases errK_ways n K rk s kind th lk with ⟨h0, h7⟩ | ⟨t, l, rfl, rfl, ht, hl, ⟨rfl, e, h1, h2⟩ | ⟨rfl, h1, h2, h3, ⟨e, h4⟩ | ⟨e, h4⟩⟩⟩
  · rw [hx.out] at h0 h7
    have hN := new_no (s := s) (kind := kind) (th := th) (lk := lk) h0 h7
    rw [hN]
    clear hx
    go_enter Try.func20, Try.ntmps20
    go_wp2_with fail
    go_end0
    exact ⟨rfl, HS1.out, T1.out⟩
  · rw [hx.out] at e
    subst e
    rw [new_give]
    have f0 := HS.out.h.frozen l
    have d0 := HS.out.h.cell hl
    clear hx h1 h2
    have F := Lib.hid (((HS.out.setH hl (-1)).step (below_alloc _ (.cells #[.int .i64 2, .int .i64 (t : Int), .int .i64 (l : Int)] 35))).step (Below.refl _ _).drew)
    have F2 := Lib.hid ((((turned_refl (H := H) (T := T) HB.out).set (a := ⟨H, l, none⟩) hH (Or.inl rfl) (.int .i64 (-1))).step (below_alloc _ (.cells #[.int .i64 2, .int .i64 (t : Int), .int .i64 (l : Int)] 35))).step (Below.refl _ _).drew)
    go_enter Try.func20, Try.ntmps20
    go_wp2_with fail
    go_region
    go_wp2_with fail
    go_end0
    exact ⟨rfl, F.out, F2.out⟩
  · rw [hx.out] at e
    subst e
    rw [new_take]
    have f0 := HS.out.h.frozen l
    have d0 := HS.out.h.cell hl
    have f1 := HS.out.t.frozen t
    have d1 := HS.out.t.cell ht
    clear hx h1 h2 h3 h4
    have n4 : ¬ T = H := fun e => n3 e.symm
    have F := Lib.hid ((((HS.out.setH hl t).setT ht (-1)).step (below_alloc _ (.cells #[.int .i64 1, .int .i64 (t : Int), .int .i64 (l : Int)] 35))).step (Below.refl _ _).drew.drew)
    have F2 := Lib.hid (((((turned_refl (H := H) (T := T) HB.out).set (a := ⟨H, l, none⟩) hH (Or.inl rfl) (.int .i64 (t : Int))).set (a := ⟨T, t, none⟩) hT (Or.inr rfl) (.int .i64 (-1))).step (below_alloc _ (.cells #[.int .i64 1, .int .i64 (t : Int), .int .i64 (l : Int)] 35))).step (Below.refl _ _).drew.drew)
    go_enter Try.func20, Try.ntmps20
    go_wp2_with fail
    go_region
    go_wp2_with fail
    go_region
    go_wp2_with fail
    go_end0
    exact ⟨rfl, F.out, F2.out⟩
  · rw [hx.out] at e
    subst e
    rw [new_wait]
    have f1 := HS.out.t.frozen t
    have d1 := HS.out.t.cell ht
    clear hx h1 h2 h3 h4
    have F := Lib.hid (((HS.out.setT ht l).step (below_alloc _ (.cells #[.int .i64 1, .int .i64 (t : Int), .int .i64 (l : Int)] 35))).step (Below.refl _ _).drew)
    have F2 := Lib.hid ((((turned_refl (H := H) (T := T) HB.out).set (a := ⟨T, t, none⟩) hT (Or.inr rfl) (.int .i64 (l : Int))).step (below_alloc _ (.cells #[.int .i64 1, .int .i64 (t : Int), .int .i64 (l : Int)] 35))).step (Below.refl _ _).drew)
    go_enter Try.func20, Try.ntmps20
    go_wp2_with fail
    go_region
    go_wp2_with fail
    go_end0
    exact ⟨rfl, F.out, F2.out⟩
end
end Go.Proofs.Ytcnnimhdnmmaoaa
