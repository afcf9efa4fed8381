/- RingRoom: the walk. -/
import Derived.Test.YtipkmmajhhcadaaRngF
import Derived.Test.YtipkmmajhhcadaaRngO
import Derived.Test.YtipkmmajhhcadaaRep2
namespace Go.Proofs.Ytipkmmajhhcadaa
open Go.RowKit

def moreR : List RoT := [⟨2, 0⟩, ⟨1, 0⟩, ⟨3, 0⟩, ⟨1, 0⟩]
theorem want_set (p : Nat) : ((List.replicate (p + 5) (0 : Int)).set p 7).set (p + 2) 7 = List.replicate p 0 ++ [7, 0, 7, 0, 0] := by
  have e : List.replicate (p + 5) (0 : Int) = List.replicate p 0 ++ [0, 0, 0, 0, 0] := by
    rw [show ([0, 0, 0, 0, 0] : List Int) = List.replicate 5 0 from rfl, List.replicate_append_replicate]
  rw [e, List.set_append_right _ _ (by simp), List.length_replicate, Nat.sub_self, List.set_append_right _ _ (by simp), List.length_replicate, Nat.add_sub_cancel_left]
  rfl
theorem made_zero (n : Nat) : (madeCells (Value.int .i64 0).cells (n * 1)).toList = shI.flat (List.replicate n 0) := by
  rw [show (Value.int .i64 0).cells = #[.int .i64 0] from rfl, toList_madeCells_one, Nat.mul_one]
  induction n with
  | zero => rfl
  | succ n ih => rw [List.replicate_succ, List.replicate_succ, ih]; rfl
theorem que_int {w : World} {base g off n cap k : Nat} {e : TypeId} {l : List Int} {a : Int} (h : Que shI w base e (.slice (some ⟨g, off, none⟩) n cap) n l) (hk : l[k]? = some a) (v : Int) : Que shI (w.setCell ⟨g, off + k, none⟩ (.int .i64 v)) base e (.slice (some ⟨g, off, none⟩) n cap) n (l.set k v) := by
  have h1 := que_entry (S := shI) (i := 0) (v := .int .i64 v) (a' := v) h hk (by decide) rfl
  rw [show k * shI.size + 0 = k by show k * 1 + 0 = k; omega] at h1
  exact h1
set_option maxHeartbeats 1000000 in
set_option maxRecDepth 100000 in
theorem room_no (x : Int) (d : Int) (w : World) (hx : ¬ (2 ≤ x ∧ x ≤ 64)) : Calls Try.prog 7 #[.int .i64 x, .int .i64 d] w fun e w' => e = .returned (.bool true) ∧ Below w.heap.size w w' := by
  by_cases h1 : x < 2
  · have h1' : decide (x < 2) = true := decide_eq_true h1
    clear hx
    go_enter Try.func7, Try.ntmps7
    go_wp2_with (first
      | (go_at_call 18; (with_reducible refine (alive18_N _).mono ?_); rintro e w1 ⟨rfl, hb⟩; have B1 := Lib.hid hb; clear hb)
      | fail)
    go_ret
    exact ⟨rfl, B1.out⟩
  · have h1' : decide (x < 2) = false := decide_eq_false h1
    have h2' : decide (x > 64) = true := decide_eq_true (by omega)
    clear hx
    go_enter Try.func7, Try.ntmps7
    go_wp2_with (first
      | (go_at_call 18; (with_reducible refine (alive18_N _).mono ?_); rintro e w1 ⟨rfl, hb⟩; have B1 := Lib.hid hb; clear hb)
      | fail)
    go_ret
    exact ⟨rfl, B1.out⟩
set_option maxHeartbeats 4000000 in
set_option maxRecDepth 100000 in
theorem room_yes (n p r : Nat) (d : Int) (w : World) (h2 : 2 ≤ n) (h64 : n ≤ 64) (hp : p + 1 = n) (hr : n + 4 = r) : Calls Try.prog 7 #[.int .i64 (n : Nat), .int .i64 d] w fun e w' => e = .returned (.bool true) ∧ Below w.heap.size w w' := by
  obtain ⟨i0, hi, hz0, hz1, hz2⟩ := info_parts' info_rop
  obtain ⟨j0, hj, hy0, hy1, hy2⟩ := info_parts info_errno
  have hb0 : j0.bytes * r ≤ 281474976710656 := by rw [hy2]; omega
  have hmx : r ≤ maxLen := by unfold maxLen; omega
  have h1' : decide ((n : Int) < 2) = false := decide_eq_false (by omega)
  have h2' : decide ((n : Int) > 64) = false := decide_eq_false (by omega)
  have x1 : IntKind.i64.wrap ((n : Int) + 4) = (r : Int) := by rw [IntKind.wrap_i64]; omega
  have x2 : IntKind.i64.wrap ((n : Int) - 1) = (p : Int) := by rw [IntKind.wrap_i64]; omega
  have x3 : IntKind.i64.wrap ((n : Int) + 1) = ((p + 2 : Nat) : Int) := by rw [IntKind.wrap_i64]; omega
  have hpr : p < r := by omega
  have hpr2 : p + 2 < r := by omega
  obtain ⟨s, hs⟩ : ∃ s, runG n newG (List.replicate n ⟨1, d⟩ ++ moreR) = s := ⟨_, rfl⟩
  have HS := Lib.hid hs
  have HE : Hid (errsG n newG (List.replicate n ⟨1, d⟩ ++ moreR) = List.replicate p 0 ++ [7, 0, 7, 0, 0]) := Lib.hid (by
    have h := room_all h2 d
    rw [show n - 1 = p by omega] at h
    exact h)
  have HL : Hid ((List.replicate n (⟨1, d⟩ : RoT) ++ moreR).length = r) := Lib.hid (by rw [List.length_append, List.length_replicate, ← hr]; rfl)
  obtain ⟨A, hA⟩ : ∃ A, s.taken.length = A := ⟨_, rfl⟩
  have HA := Lib.hid hA
  clear hs hA
  go_enter Try.func7, Try.ntmps7
  go_upto_region 5 with (first
    | (go_at_call 18; (with_reducible refine (alive18_N _).mono ?_); rintro e w1 ⟨rfl, hb⟩; have B1 := Lib.hid hb; clear hb)
    | fail)
  have B2 := Lib.hid (pstep B1.out (below_alloc w1 (.cells #[.int .i64 1, .int .i64 d] 26)))
  have X2 : Hid (shRo.At (w1.alloc (.cells #[.int .i64 1, .int .i64 d] 26)) (some ⟨w1.heap.size, 0, none⟩) 1 [⟨1, d⟩]) := Lib.hid (Shape.At.lit (S := shRo) [⟨1, d⟩] (heap_alloc_new w1 _))
  go_upto_region 6 with (first
    | (go_at_call 19; (with_reducible refine (repeat_O ⟨1, d⟩ n (by omega) h64 _ X2).mono ?_); rintro e w3 ⟨H, rfl, q3, hb⟩; have B3 := Lib.hid (pstep B2.out hb); have Q3 := Lib.hid (que_base q3 B2.out.size); clear q3 hb)
    | fail)
  have bl := below_alloc w3 (.cells #[.int .i64 2, .int .i64 0, .int .i64 1, .int .i64 0, .int .i64 3, .int .i64 0, .int .i64 1, .int .i64 0] 26)
  have B4 := Lib.hid (pstep B3.out bl)
  have Q4 := Lib.hid (que_step Q3.out bl)
  have X4 : Hid (shRo.At (w3.alloc (.cells #[.int .i64 2, .int .i64 0, .int .i64 1, .int .i64 0, .int .i64 3, .int .i64 0, .int .i64 1, .int .i64 0] 26)) (some ⟨w3.heap.size, 0, none⟩) 4 moreR) := Lib.hid (Shape.At.lit (S := shRo) moreR (heap_alloc_new w3 _))
  have h0 := B4.out.size
  clear bl B1 B2 X2 B3 Q3
  go_upto_region 7 with (first
    | (at_builtin; refine wpList_append_que shRo rfl _ _ 41 rfl w.heap.size 26 i0 _ 16 Try.underlying41 hi hz0 hz1 hz2 rfl (.slice (some ⟨H, 0, none⟩) n n) n (List.replicate n ⟨1, d⟩) moreR rfl Q4.out (some ⟨w3.heap.size, 0, none⟩) 4 4 rfl (Lib.hid rfl) X4.out (by unfold maxLen; omega) (by omega) h0 ?_; intro oa oc w5 own5 grow5 _; have B5 := Lib.hid (B4.out.grown grow5 B4.out.size (fun k hk => (que_lt Q4.out hk).1)); have Q5 := Lib.hid (que_at own5); have BB5 := Lib.hid (B5.out.size); clear own5 grow5)
    | (go_at_call 15; (with_reducible refine (play_ok n _ h2 h64 Q5 HL (by omega) s HS _ HE A HA).mono ?_); rintro e w6 ⟨E, ta, tc, ra, rc, cs', g', t', k', rfl, _, _, q6, _, _, hb⟩; have B6 := Lib.hid (pstep B5.out hb); have E6 := Lib.hid q6; clear q6 hb)
    | fail)
  have B7 := Lib.hid (pstep B6.out (below_alloc w6 (.cells #[.slice ra n rc, .int .i64 (g' : Nat), .int .i64 (t' : Nat), .int .i64 (k' : Nat)] 24)))
  have E7 := Lib.hid (E6.out.step (below_alloc w6 (.cells #[.slice ra n rc, .int .i64 (g' : Nat), .int .i64 (t' : Nat), .int .i64 (k' : Nat)] 24)))
  generalize w6.alloc (.cells #[.slice ra n rc, .int .i64 (g' : Nat), .int .i64 (t' : Nat), .int .i64 (k' : Nat)] 24) = w7 at B7 E7 ⊢
  have hs7 := B7.out.size
  go_upto_region 8 with (first
    | (at_make; refine wpList_make_full _ rfl _ _ 34 rfl w.heap.size 27 j0 _ 1 Try.underlying34 hj hy0 hy1 .i64 .i64 _ _ r rfl rfl rfl rfl hb0 hmx hs7 ?_; intro w8 hown hgrow)
    | fail)
  rw [made_zero] at hown
  have Q8 := Lib.hid (que_own (S := shI) hown (List.length_replicate))
  have b8 : Below w7.heap.size w7 w8 := (Below.refl w7.heap.size w7).grown hgrow (Nat.le_refl _) (fun k hk => by cases hk)
  have B8 := Lib.hid (pstep B7.out b8)
  have HE9 : Hid (shI.At ((w8.setCell ⟨w7.heap.size, p, none⟩ (.int .i64 7)).setCell ⟨w7.heap.size, p + 2, none⟩ (.int .i64 7)) (some ⟨E, 0, none⟩) r (List.replicate p 0 ++ [7, 0, 7, 0, 0])) := Lib.hid (E7.out.step ((b8.setCell (Nat.le_refl _) _).setCell (Nat.le_refl _) _))
  clear hown hgrow hs7 b8
  generalize w7.heap.size = W at Q8 HE9 ⊢
  obtain ⟨_, _, e1, _, c1⟩ := at_int (que_at Q8.out) (show (List.replicate r (0 : Int))[p]? = some 0 by rw [List.getElem?_replicate, if_pos hpr])
  obtain ⟨_, _, e2, _, c2⟩ := at_int (que_at Q8.out) (show (List.replicate r (0 : Int))[p + 2]? = some 0 by rw [List.getElem?_replicate, if_pos hpr2])
  cases e1
  cases e2
  have f8 := fun i => que_froz Q8.out i
  have l8 : W < w8.heap.size := (que_lt Q8.out rfl).2
  have Q9 := Lib.hid (que_int Q8.out (show (List.replicate r (0 : Int))[p]? = some 0 by rw [List.getElem?_replicate, if_pos hpr]) 7)
  have Q10 := Lib.hid (que_int Q9.out (k := p + 2) (a := 0) (by rw [List.getElem?_set_ne (by omega), List.getElem?_replicate, if_pos hpr2]) 7)
  have HW : Hid (shI.At ((w8.setCell ⟨W, 0 + p, none⟩ (.int .i64 7)).setCell ⟨W, 0 + (p + 2), none⟩ (.int .i64 7)) (some ⟨W, 0, none⟩) r (List.replicate p 0 ++ [7, 0, 7, 0, 0])) := Lib.hid (by
    have h := que_at Q10.out
    rw [show r = p + 5 by omega, want_set] at h
    rw [show r = p + 5 by omega]
    exact h)
  have HB : Hid (Below w.heap.size w ((w8.setCell ⟨W, 0 + p, none⟩ (.int .i64 7)).setCell ⟨W, 0 + (p + 2), none⟩ (.int .i64 7))) := Lib.hid (by
    have hW0 : w.heap.size ≤ W := (que_lt Q8.out rfl).1
    exact (B8.out.setCell (p := ⟨W, 0 + p, none⟩) hW0 _).setCell (p := ⟨W, 0 + (p + 2), none⟩) hW0 _)
  simp only [Nat.zero_add] at HW HB c1 c2
  have HLW : Hid ((List.replicate p (0 : Int) ++ [7, 0, 7, 0, 0]).length = r) := Lib.hid (by rw [List.length_append, List.length_replicate]; show p + 5 = r; omega)
  go_wp2_with (first
    | (go_at_call 16; (with_reducible refine (equalE (n := r) _ HLW HE9 HW (by omega)).mono ?_); rintro e w9 ⟨rfl, hb⟩; have B9 := Lib.hid (pstep HB.out hb); clear hb)
    | fail)
  go_ret
  exact ⟨rfl, B9.out⟩
theorem ringRoom_walk (v v1 : Value) (w : World) (h : ArgInt w v) (h1 : ArgInt w v1) : Calls Try.prog 7 #[v, v1] w fun e w' => e = .returned (.bool true) ∧ Below w.heap.size w w' := by
  obtain ⟨x, rfl⟩ := h
  obtain ⟨d, rfl⟩ := h1
  by_cases hx : 2 ≤ x ∧ x ≤ 64
  · obtain ⟨n, rfl⟩ : ∃ n : Nat, x = n := ⟨x.toNat, by omega⟩
    exact room_yes n (n - 1) _ d w (by omega) (by omega) (by omega) rfl
  · exact room_no x d w hx
end Go.Proofs.Ytipkmmajhhcadaa
