/- CoresAlone: the walk. -/
import Derived.Test.YtningajaimbncaaCorZB
import Derived.Deep.RegionLaw
namespace Go.Proofs.Ytningajaimbncaa
open Go.RowKit

set_option maxHeartbeats 4000000 in
set_option maxRecDepth 100000 in
theorem coalone_W {ad : Option Addr} {cap m : Nat} {l : List ThT} (c sl tk lvl : Int) (w : World) (HA : Hid (shT.At w ad cap l)) (hm : Hid (l.length = m)) (hm9 : m ≤ 5864062014634) :
    Calls Try.prog 6 #[.int .i64 c, .int .i64 sl, .slice ad m cap, .int .i64 tk, .int .i64 lvl] w fun e w' => e = .returned (.bool true) ∧ Below w.heap.size w w' := by
  obtain ⟨i0, hi, hz0, hz1, hz2⟩ := info_parts' info_th
  obtain ⟨j0, hj0, hy0, hy1, hy2⟩ := info_parts' info_int
  have h1T : ∀ t : ThT, Hid ([t].length = 1) := fun _ => Lib.hid rfl
  have h1L : ∀ t : Int, Hid ([t].length = 1) := fun _ => Lib.hid rfl
  go_enter Try.func6, Try.ntmps6
  go_wp2_with (first
    | (go_at_call 15; (with_reducible refine (alive14_N _).mono ?_); rintro e w1 ⟨rfl, hb⟩; have HB1 := Lib.hid hb; have HA1 := Lib.hid (HA.out.step hb); clear hb)
    | fail)
  go_loopw [11, 27] (fun v1 i wr => ∃ (k N : Nat) (v2 : Value), k ≤ m ∧ i = .int .i64 k ∧ Hid (LpA w1 w1.heap.size v1 N (ownA lvl l k) v2 N (castL (idsA lvl l k)) wr) ∧ Hid ((ownA lvl l k).length = N) ∧ Hid ((castL (idsA lvl l k)).length = N)) (fun _ i _ => m - (intOf i).toNat)
  case atStart => exact ⟨0, 0, .slice none 0 0, Nat.zero_le _, rfl, Lib.hid (by rw [ownA_zero, idsA_zero]; exact ⟨below_alloc _ _, Nat.le_refl _, heap_alloc_new w1 _, World.ownsRow_nil _ _ _ _, World.ownsRow_nil _ _ _ _⟩), Lib.hid (by rw [ownA_zero]; rfl), Lib.hid rfl⟩
  case round =>
    obtain ⟨k, N, v2, hk, rfl, L, HN1, HN2⟩ := hrel
    have hNk : N ≤ k := by rw [← HN1.out]; exact ownA_len _ _ _
    by_cases hlt : k < m
    · obtain ⟨x, hx⟩ : ∃ x, l[k]? = some x := ⟨l[k]'(by rw [hm.out]; exact hlt), List.getElem?_eq_getElem _⟩
      obtain ⟨b, off, rfl, hbl, g0, g1, g2⟩ := at_th (HA1.out.step L.out.b) hx
      have HO := Lib.hid (ownA_next (lv := lvl) hx)
      have HI := Lib.hid (idsA_next (lv := lvl) hx)
      obtain ⟨tc, tl, tw⟩ := x
      simp only at g0 g1 g2 HO HI
      obtain ⟨xs, hxs⟩ : ∃ xs, ownA lvl l k = xs := ⟨_, rfl⟩
      obtain ⟨ys, hys⟩ : ∃ ys, castL (idsA lvl l k) = ys := ⟨_, rfl⟩
      rw [hxs, hys] at L
      rw [hxs] at HN1 HO
      rw [hys] at HN2
      have HYS := Lib.hid hys
      have hXl := heap_lt L.out.x
      have hX0 := one_at L.out.x
      clear hx hxs hys
      by_cases hge : lvl ≤ tl
      · have R0 := L.out.ra ⟨tc, tl, tw⟩
        change RA _ _ _ _ _ _ _ _ _ _ _ (wr.alloc (.cells #[.int .i64 tc, .int .i64 tl, .int .i64 tw] 35)) at R0
        obtain ⟨va, vc, rfl, _⟩ := own_shape L.out.o1
        obtain ⟨ia, ic, rfl, _⟩ := own_shape L.out.o2
        rw [if_pos hge] at HO HI
        obtain ⟨w2, hw2⟩ : ∃ w2, wr.alloc (.cells #[.int .i64 tc, .int .i64 tl, .int .i64 tw] 35) = w2 := ⟨_, rfl⟩
        obtain ⟨TB, hTB⟩ : ∃ TB, wr.heap.size = TB := ⟨_, rfl⟩
        rw [hw2, hTB] at R0
        have HW2 := Lib.hid hw2
        have HTB := Lib.hid hTB
        have HO1 : Hid ((ownA lvl l (k + 1)).length = N + 1) := Lib.hid (by rw [HO.out, List.length_append, HN1.out]; rfl)
        have HI0 : Hid (castL (idsA lvl l (k + 1)) = ys ++ [((k : Nat) : Int)]) := Lib.hid (by rw [HI.out, ← HYS.out]; unfold castL; rw [List.map_append]; rfl)
        have HI1 : Hid ((castL (idsA lvl l (k + 1))).length = N + 1) := Lib.hid (by rw [HI0.out, List.length_append, HN2.out]; rfl)
        clear hw2 hTB L
        go_upto_region 9 with fail
        rw [HW2.out, HTB.out]
        have S0 := R0.s.drew.rt
        have x0 := one_at R0.s.drew.x
        have R1 := (R0.alloc (.cells #[.int .i64 tc, .int .i64 tl, .int .i64 tw] 35)).drew
        have R2 := (R0.alloc (.cells #[.int .i64 (k : Nat)] 3)).drew
        have R12 := ((R0.alloc (.cells #[.int .i64 tc, .int .i64 tl, .int .i64 tw] 35)).alloc (.cells #[.int .i64 (k : Nat)] 3)).drew
        have R21 := ((R0.alloc (.cells #[.int .i64 (k : Nat)] 3)).alloc (.cells #[.int .i64 tc, .int .i64 tl, .int .i64 tw] 35)).drew
        have S1 := R1.s.rt
        have x1 := one_at R1.s.x
        have S2 := R2.s.rt
        have x2 := one_at R2.s.x
        have S12 := R12.s.rt
        have x12 := one_at R12.s.x
        have S21 := R21.s.rt
        have x21 := one_at R21.s.x
        have A1 : Hid ((w2.alloc (.cells #[.int .i64 tc, .int .i64 tl, .int .i64 tw] 35)).drew.heap[w2.heap.size]? = some (.cells #[.int .i64 tc, .int .i64 tl, .int .i64 tw] 35 (0, 0))) := Lib.hid (heap_alloc_new w2 _)
        have B2 : Hid ((w2.alloc (.cells #[.int .i64 (k : Nat)] 3)).drew.heap[w2.heap.size]? = some (.cells #[.int .i64 (k : Nat)] 3 (0, 0))) := Lib.hid (heap_alloc_new w2 _)
        have A12 : Hid (((w2.alloc (.cells #[.int .i64 tc, .int .i64 tl, .int .i64 tw] 35)).alloc (.cells #[.int .i64 (k : Nat)] 3)).drew.heap[w2.heap.size]? = some (.cells #[.int .i64 tc, .int .i64 tl, .int .i64 tw] 35 (0, 0))) := Lib.hid (heap_step (heap_alloc_new w2 _) (below_alloc _ _).drew)
        have B21 : Hid (((w2.alloc (.cells #[.int .i64 (k : Nat)] 3)).alloc (.cells #[.int .i64 tc, .int .i64 tl, .int .i64 tw] 35)).drew.heap[w2.heap.size]? = some (.cells #[.int .i64 (k : Nat)] 3 (0, 0))) := Lib.hid (heap_step (heap_alloc_new w2 _) (below_alloc _ _).drew)
        have B12 : Hid (((w2.alloc (.cells #[.int .i64 tc, .int .i64 tl, .int .i64 tw] 35)).alloc (.cells #[.int .i64 (k : Nat)] 3)).drew.heap[w2.heap.size + 1]? = some (.cells #[.int .i64 (k : Nat)] 3 (0, 0))) := Lib.hid (by
          have := heap_alloc_new (w2.alloc (.cells #[.int .i64 tc, .int .i64 tl, .int .i64 tw] 35)) (.cells #[.int .i64 (k : Nat)] 3)
          rw [World.size_alloc] at this
          exact this)
        have A21 : Hid (((w2.alloc (.cells #[.int .i64 (k : Nat)] 3)).alloc (.cells #[.int .i64 tc, .int .i64 tl, .int .i64 tw] 35)).drew.heap[w2.heap.size + 1]? = some (.cells #[.int .i64 tc, .int .i64 tl, .int .i64 tw] 35 (0, 0))) := Lib.hid (by
          have := heap_alloc_new (w2.alloc (.cells #[.int .i64 (k : Nat)] 3)) (.cells #[.int .i64 tc, .int .i64 tl, .int .i64 tw] 35)
          rw [World.size_alloc] at this
          exact this)
        have h1T := h1T ⟨tc, tl, tw⟩
        have h1L := h1L (k : Nat)
        clear g0 g1 g2 hbl hX0 hXl
        have y0 := trio_at R0.s.drew.t
        have y2 := trio_at R2.s.t
        obtain ⟨y00, y01, y02⟩ := y0
        obtain ⟨y20, y21, y22⟩ := y2
        go_region_law
          (first
          | (refine step_append_n shT rfl _ _ 22 rfl w1.heap.size 35 i0 _ 24 Try.underlying22 hi hz0 hz1 hz2 rfl (.slice va N vc) N xs [⟨tc, tl, tw⟩] HN1 rfl R1.o1 (some ⟨w2.heap.size, 0, none⟩) 1 1 rfl h1T (th_at A1.out 1) (by unfold maxLen; omega) (by omega) R1.s.b.size ?_; intro ra rb w5 own5 grow5 new5; have P1 := R1.grow1 grow5 own5 new5; have PS := P1.s.rt; have P1A := P1.alloc (.cells #[.int .i64 (k : Nat)] 3); have PSA := P1A.s.rt; have x5 := one_at P1.s.x; have x5a := one_at P1A.s.x; have B1 := Lib.hid (in_row w5 k); clear own5 grow5 new5)
          | (refine step_append_n shT rfl _ _ 22 rfl w1.heap.size 35 i0 _ 24 Try.underlying22 hi hz0 hz1 hz2 rfl (.slice va N vc) N xs [⟨tc, tl, tw⟩] HN1 rfl R12.o1 (some ⟨w2.heap.size, 0, none⟩) 1 1 rfl h1T (th_at A12.out 1) (by unfold maxLen; omega) (by omega) R12.s.b.size ?_; intro ra rb w5 own5 grow5 new5; have P12 := R12.grow1 grow5 own5 new5; have x12b := one_at P12.s.x; have PS := P12.s.rt; have x5 := one_at P12.s.x; have B12' := Lib.hid ((grow5.block _ (heap_lt B12.out) (fun e => own_ne R12.o1 B12.out (by decide) _ e.symm rfl)).trans B12.out); clear own5 grow5 new5)
          | (refine step_append_n shT rfl _ _ 22 rfl w1.heap.size 35 i0 _ 24 Try.underlying22 hi hz0 hz1 hz2 rfl (.slice va N vc) N xs [⟨tc, tl, tw⟩] HN1 rfl R21.o1 (some ⟨w2.heap.size + 1, 0, none⟩) 1 1 rfl h1T (th_at A21.out 1) (by unfold maxLen; omega) (by omega) R21.s.b.size ?_; intro ra rb w5 own5 grow5 new5; have P21 := R21.grow1 grow5 own5 new5; have x21b := one_at P21.s.x; have PS := P21.s.rt; have x5 := one_at P21.s.x; have B21' := Lib.hid ((grow5.block _ (heap_lt B21.out) (fun e => own_ne R21.o1 B21.out (by decide) _ e.symm rfl)).trans B21.out); clear own5 grow5 new5)
          | (refine step_append_n shI rfl _ _ 29 rfl w1.heap.size 3 j0 _ 8 Try.underlying29 hj0 hy0 hy1 hy2 rfl (.slice ia N ic) N ys [((k : Nat) : Int)] HN2 rfl R2.o2 (some ⟨w2.heap.size, 0, none⟩) 1 1 rfl h1L (in_at B2.out 1) (by unfold maxLen; omega) (by omega) R2.s.b.size ?_; intro qa qb w5 own5 grow5 _; have Q2 := R2.grow2 grow5 own5; obtain ⟨y50, y51, y52⟩ := trio_at Q2.s.t; have PS := Q2.s.rt; have Q2A := Q2.alloc (.cells #[.int .i64 tc, .int .i64 tl, .int .i64 tw] 35); have PSA := Q2A.s.rt; have A2 := Lib.hid (th_row w5 ⟨tc, tl, tw⟩); clear own5 grow5)
          | (refine step_append_n shI rfl _ _ 29 rfl w1.heap.size 3 j0 _ 8 Try.underlying29 hj0 hy0 hy1 hy2 rfl (.slice ia N ic) N ys [((k : Nat) : Int)] HN2 rfl R12.o2 (some ⟨w2.heap.size + 1, 0, none⟩) 1 1 rfl h1L (in_at B12.out 1) (by unfold maxLen; omega) (by omega) R12.s.b.size ?_; intro qa qb w5 own5 grow5 _; have Q12 := R12.grow2 grow5 own5; have PS := Q12.s.rt; have A12' := Lib.hid ((grow5.block _ (heap_lt A12.out) (fun e => own_ne R12.o2 A12.out (by decide) _ e.symm rfl)).trans A12.out); clear own5 grow5)
          | (refine step_append_n shI rfl _ _ 29 rfl w1.heap.size 3 j0 _ 8 Try.underlying29 hj0 hy0 hy1 hy2 rfl (.slice ia N ic) N ys [((k : Nat) : Int)] HN2 rfl R21.o2 (some ⟨w2.heap.size, 0, none⟩) 1 1 rfl h1L (in_at B21.out 1) (by unfold maxLen; omega) (by omega) R21.s.b.size ?_; intro qa qb w5 own5 grow5 _; have Q21 := R21.grow2 grow5 own5; have PS := Q21.s.rt; have A21' := Lib.hid ((grow5.block _ (heap_lt A21.out) (fun e => own_ne R21.o2 A21.out (by decide) _ e.symm rfl)).trans A21.out); clear own5 grow5)
          | (refine step_append_n shI rfl _ _ 29 rfl w1.heap.size 3 j0 _ 8 Try.underlying29 hj0 hy0 hy1 hy2 rfl (.slice ia N ic) N ys [((k : Nat) : Int)] HN2 rfl P1A.o2 (some ⟨w5.heap.size, 0, none⟩) 1 1 rfl h1L (in_at B1.out 1) (by unfold maxLen; omega) (by omega) P1A.s.b.size ?_; intro qa qb w6 own5 grow5 _; have R9 := P1A.grow2 grow5 own5; have PT := R9.s.rt; have x9 := one_at R9.s.x; have f9 := frozen_of_row _ _ 0 _ _ R9.s.x; have hX9 := heap_lt R9.s.x; have L9 := Lib.hid (R9.put (Nat.le_refl _)); have PT2 := R9.rts (u := .slice qa (N + 1) qb); clear own5 grow5)
          | (refine step_append_n shI rfl _ _ 29 rfl w1.heap.size 3 j0 _ 8 Try.underlying29 hj0 hy0 hy1 hy2 rfl (.slice ia N ic) N ys [((k : Nat) : Int)] HN2 rfl P12.o2 (some ⟨w2.heap.size + 1, 0, none⟩) 1 1 rfl h1L (in_at B12'.out 1) (by unfold maxLen; omega) (by omega) P12.s.b.size ?_; intro qa qb w6 own5 grow5 _; have R9 := P12.grow2 grow5 own5; have PT := R9.s.rt; have x9 := one_at R9.s.x; have f9 := frozen_of_row _ _ 0 _ _ R9.s.x; have hX9 := heap_lt R9.s.x; have L9 := Lib.hid (R9.put (Nat.le_refl _)); have PT2 := R9.rts (u := .slice qa (N + 1) qb); clear own5 grow5)
          | (refine step_append_n shI rfl _ _ 29 rfl w1.heap.size 3 j0 _ 8 Try.underlying29 hj0 hy0 hy1 hy2 rfl (.slice ia N ic) N ys [((k : Nat) : Int)] HN2 rfl P21.o2 (some ⟨w2.heap.size, 0, none⟩) 1 1 rfl h1L (in_at B21'.out 1) (by unfold maxLen; omega) (by omega) P21.s.b.size ?_; intro qa qb w6 own5 grow5 _; have R9 := P21.grow2 grow5 own5; have PT := R9.s.rt; have x9 := one_at R9.s.x; have f9 := frozen_of_row _ _ 0 _ _ R9.s.x; have hX9 := heap_lt R9.s.x; have L9 := Lib.hid (R9.put (Nat.le_refl _)); have PT2 := R9.rts (u := .slice qa (N + 1) qb); clear own5 grow5)
          | (refine step_append_n shT rfl _ _ 22 rfl w1.heap.size 35 i0 _ 24 Try.underlying22 hi hz0 hz1 hz2 rfl (.slice va N vc) N xs [⟨tc, tl, tw⟩] HN1 rfl Q2A.o1 (some ⟨w5.heap.size, 0, none⟩) 1 1 rfl h1T (th_at A2.out 1) (by unfold maxLen; omega) (by omega) Q2A.s.b.size ?_; intro ra rb w6 own5 grow5 new5; have R9 := Q2A.grow1 grow5 own5 new5; have PT := R9.s.rt; have x9 := one_at R9.s.x; have f9 := frozen_of_row _ _ 0 _ _ R9.s.x; have hX9 := heap_lt R9.s.x; have L9 := Lib.hid (R9.put (Nat.le_refl _)); have PT2 := R9.rts (u := .slice qa (N + 1) qb); clear own5 grow5 new5)
          | (refine step_append_n shT rfl _ _ 22 rfl w1.heap.size 35 i0 _ 24 Try.underlying22 hi hz0 hz1 hz2 rfl (.slice va N vc) N xs [⟨tc, tl, tw⟩] HN1 rfl Q12.o1 (some ⟨w2.heap.size, 0, none⟩) 1 1 rfl h1T (th_at A12'.out 1) (by unfold maxLen; omega) (by omega) Q12.s.b.size ?_; intro ra rb w6 own5 grow5 new5; have R9 := Q12.grow1 grow5 own5 new5; have PT := R9.s.rt; have x9 := one_at R9.s.x; have f9 := frozen_of_row _ _ 0 _ _ R9.s.x; have hX9 := heap_lt R9.s.x; have L9 := Lib.hid (R9.put (Nat.le_refl _)); have PT2 := R9.rts (u := .slice qa (N + 1) qb); clear own5 grow5 new5)
          | (refine step_append_n shT rfl _ _ 22 rfl w1.heap.size 35 i0 _ 24 Try.underlying22 hi hz0 hz1 hz2 rfl (.slice va N vc) N xs [⟨tc, tl, tw⟩] HN1 rfl Q21.o1 (some ⟨w2.heap.size + 1, 0, none⟩) 1 1 rfl h1T (th_at A21'.out 1) (by unfold maxLen; omega) (by omega) Q21.s.b.size ?_; intro ra rb w6 own5 grow5 new5; have R9 := Q21.grow1 grow5 own5 new5; have PT := R9.s.rt; have x9 := one_at R9.s.x; have f9 := frozen_of_row _ _ 0 _ _ R9.s.x; have hX9 := heap_lt R9.s.x; have L9 := Lib.hid (R9.put (Nat.le_refl _)); have PT2 := R9.rts (u := .slice qa (N + 1) qb); clear own5 grow5 new5)
          | fail)
        all_goals go_wp2_with fail
        all_goals go_roundw
        all_goals first | exact ⟨k + 1, N + 1, _, by omega, by go_num, Lib.hid (by rw [HO.out, HI0.out]; exact L9.out), HO1, HI1⟩ | (simp [intOf]; omega)
      · have LA := Lib.hid (L.out.step (below_alloc wr (.cells #[.int .i64 tc, .int .i64 tl, .int .i64 tw] 35)))
        rw [if_neg hge, List.append_nil] at HO HI
        go_wp2_with fail
        go_roundw
        case rel => exact ⟨k + 1, N, v2, by omega, by go_num, Lib.hid (by rw [HO.out, HI.out, HYS.out]; exact LA.out), Lib.hid (by rw [HO.out]; exact HN1.out), Lib.hid (by rw [HI.out, HYS.out]; exact HN2.out)⟩
        case measure => simp [intOf]; omega
    · obtain rfl : k = m := by omega
      obtain ⟨va, vc, rfl, _⟩ := own_shape L.out.o1
      obtain ⟨ia, ic, rfl, _, _, _, hsome⟩ := own_shape L.out.o2
      have HIB := Lib.hid (fun (b o : Nat) (e : ia = some ⟨b, o, none⟩) => (by
        obtain ⟨g, e', _, h2⟩ := hsome _ e
        cases e'
        exact h2 : b < wr.heap.size))
      have HOA := Lib.hid (Shape.At.own (S := shT) L.out.o1 HN1.out)
      have HIA := Lib.hid (Shape.At.own (S := shI) L.out.o2 HN2.out)
      have HA2 := Lib.hid (HA1.out.step L.out.b)
      have HB2 := Lib.hid (pstep HB1.out L.out.b)
      have HXR := Lib.hid L.out.x
      clear L hlt hk hsome HA1 HB1 h1T h1L hi hz0 hz1 hz2
      by_cases hok : wrongN c sl l = 0 ∧ 0 ≤ tk ∧ tk ≤ 2000
      · obtain ⟨hok, htk0, htk2⟩ := hok
        obtain ⟨c', sl', rfl, rfl, hO⟩ := wrong_ok hok
        obtain ⟨n, rfl⟩ : ∃ n : Nat, tk = n := ⟨tk.toNat, by omega⟩
        have HOK := Lib.hid hO
        have hn2 : n ≤ 2000 := by omega
        have hOU := ok_own (lv := lvl) hO
        have hAR := alone_rows (lv := lvl) hO
        rw [hm.out] at hOU hAR
        have HOU := Lib.hid hOU
        have HAR := Lib.hid hAR
        have HRT := Lib.hid (row_le hO)
        have HRU := Lib.hid (row_le hOU)
        have HLU := Lib.hid hOU.lev
        have hm64 : k ≤ 64 := by rw [← hm.out]; exact hO.len
        clear hok htk0 htk2 hO hOU hAR
        go_wp2_with (first
          | (go_at_call 8; (with_reducible refine (run_ok n _ HA2 hm HOK hn2).mono ?_); rintro e w2 ⟨E, rfl, hR, hb2⟩; have HR := Lib.hid hR; have HBR := Lib.hid hb2; have HOA2 := Lib.hid (HOA.out.step hb2); clear hR hb2)
          | (go_at_call 8; (with_reducible refine (run_ok n _ HOA2 HN1 HOU hn2).mono ?_); rintro e w3 ⟨E', rfl, hR, hb3⟩; have HR' := Lib.hid hR; have HB3 := Lib.hid (pstep HBR.out hb3); have HR3 := Lib.hid (HR.out.step hb3); clear hR hb3)
          | fail)
        have HX3 := Lib.hid (heap_step HXR.out HB3.out)
        have HI3 := Lib.hid (HIA.out.step HB3.out)
        have HW3 := Lib.hid (pstep HB2.out HB3.out)
        have hws := HB3.out.size
        have HXL := Lib.hid (heap_lt HXR.out)
        obtain ⟨T, hT⟩ : ∃ T, thN l c' sl' = T := ⟨_, rfl⟩
        obtain ⟨U, hU⟩ : ∃ U, thN (ownA lvl l k) c' sl' = U := ⟨_, rfl⟩
        have HUM : Hid (U.m = N) := Lib.hid (by rw [← hU]; exact HN1.out)
        rw [hT] at HR3 HAR HRT
        rw [hU] at HR' HAR HRU HLU
        obtain ⟨F, hF⟩ : ∃ F, idsA lvl l k = F := ⟨_, rfl⟩
        rw [hF] at HAR HI3 HN2
        have HFN : Hid (F.length = N) := Lib.hid (by rw [← castL_len]; exact HN2.out)
        clear hT hU hF HR HBR HOA HOA2 HIA HXR HB2
        go_wp2_with fail
        go_loopw [78] (fun i wr => ∃ t : Nat, t ≤ n ∧ i = .int .i64 t ∧ Hid (Below w3.heap.size w3 wr)) (fun i _ => n - (intOf i).toNat)
        case atStart => exact ⟨0, Nat.zero_le _, rfl, Lib.hid (Below.refl _ _)⟩
        case round =>
          obtain ⟨t, ht, rfl, B⟩ := hrel
          by_cases hlt : t < n
          · obtain ⟨b1, off1, ua, uc, hE1, hb1, e1, hA1⟩ := HR3.out.2 t hlt
            obtain ⟨b2, off2, ub, ud, hE2, hb2, e2, hA2⟩ := HR'.out.2 t hlt
            simp only [Option.some.injEq, Addr.mk.injEq, and_true] at hE1 hE2
            obtain ⟨rfl, rfl⟩ := hE1
            obtain ⟨rfl, rfl⟩ := hE2
            have f1 := (B.out.cell (p := ⟨E, 0 + t, none⟩) hb1).trans e1
            have f2 := (B.out.cell (p := ⟨E', 0 + t, none⟩) hb2).trans e2
            rw [Nat.zero_add] at f1 f2
            have hE1 : E < wr.heap.size := Nat.lt_of_lt_of_le hb1 B.out.size
            have hE2 : E' < wr.heap.size := Nat.lt_of_lt_of_le hb2 B.out.size
            obtain ⟨r1, hr1⟩ : ∃ r, (rowN T t).length = r := ⟨_, rfl⟩
            obtain ⟨r2, hr2⟩ : ∃ r, (rowN U t).length = r := ⟨_, rfl⟩
            rw [hr1] at f1
            rw [hr2] at f2
            have hr1b : r1 ≤ 1000 := by rw [← hr1]; exact HRT.out t
            have hr2b : r2 ≤ 1000 := by rw [← hr2]; exact HRU.out t
            have HL1 := Lib.hid hr1
            have HL2 := Lib.hid hr2
            have HA1 := Lib.hid (hA1.step B.out)
            have HA2 := Lib.hid (hA2.step B.out)
            obtain ⟨W, hW⟩ : ∃ W, (rowN U t).map (fun x => ((F.getD x.toNat 0 : Nat) : Int)) = W := ⟨_, rfl⟩
            have HWL : Hid (W.length = r2) := Lib.hid (by rw [← hW, List.length_map]; exact hr2)
            have HWE := Lib.hid ((HAR.out t).trans hW)
            have HWG := Lib.hid (fun (j x : Nat) (h : (rowN U t)[j]? = some ((x : Nat) : Int)) (hx : x < N) => (by
              refine ⟨by rw [← hW, List.getElem?_map, h]; rfl, castL_get ?_⟩
              have hxf : x < F.length := by rw [HFN.out]; exact hx
              rw [List.getElem?_eq_getElem hxf]
              simp [List.getD, List.getElem?_eq_getElem hxf] : W[j]? = some ((F.getD x 0 : Nat) : Int) ∧ (castL F)[x]? = some ((F.getD x 0 : Nat) : Int)))
            have HBx := Lib.hid B.out.size
            clear e1 e2 hb1 hb2 hA1 hA2 hr1 hr2 hW
            go_wp2_with fail
            obtain ⟨wo, rfl⟩ : ∃ wo : World, wo = wr := ⟨_, rfl⟩
            go_loopw [20, 86] (fun v i wr => ∃ j : Nat, j ≤ r2 ∧ i = .int .i64 j ∧ Hid (Below wo.heap.size wo wr) ∧ Hid (wr.ownsRow wo.heap.size 3 1 v j (shI.flat (W.take j)))) (fun _ i _ => r2 - (intOf i).toNat)
            case atStart => exact ⟨0, Nat.zero_le _, rfl, Lib.hid (Below.refl _ _), Lib.hid (by rw [List.take_zero]; exact World.ownsRow_nil _ _ _ _)⟩
            case round =>
              obtain ⟨j, hj, rfl, B2, O2⟩ := hrel
              have hX3 := heap_step HX3.out (pstep B.out B2.out)
              have xX := one_at hX3
              have hXw := heap_lt hX3
              have HI4 := Lib.hid (HI3.out.step (pstep B.out B2.out))
              by_cases hlt2 : j < r2
              · obtain ⟨x, hx⟩ : ∃ x, (rowN U t)[j]? = some x := ⟨(rowN U t)[j]'(by rw [HL2.out]; exact hlt2), List.getElem?_eq_getElem _⟩
                obtain ⟨kk, rfl, _, hkU⟩ := row_mem HLU.out hx
                rw [HUM.out] at hkU
                obtain ⟨hWj, hFk⟩ := HWG.out j kk hx hkU
                obtain ⟨y, hy⟩ : ∃ y, F.getD kk 0 = y := ⟨_, rfl⟩
                rw [hy] at hWj hFk
                obtain ⟨b3, o3, hub, hb3, e3⟩ := at_int (HA2.out.step B2.out) hx
                subst hub
                obtain ⟨b4, o4, hia, hb4, e4⟩ := at_int HI4.out hFk
                subst hia
                have p1 : ¬ (kk : Int) < 0 := by omega
                have p2 : ¬ (N : Int) ≤ (kk : Int) := by omega
                obtain ⟨qa, qc, rfl, _⟩ := own_shape O2.out
                have OA := Lib.hid (own_step O2.out (below_alloc wr (.cells #[.int .i64 (y : Nat)] 3)))
                have BA := Lib.hid (pstep B2.out (below_alloc wr (.cells #[.int .i64 (y : Nat)] 3)))
                have NA := Lib.hid (int_one wr (y : Nat) 1)
                have HJL : Hid ((W.take j).length = j) := Lib.hid (by rw [List.length_take, HWL.out]; omega)
                have HTK : Hid (W.take (j + 1) = W.take j ++ [((y : Nat) : Int)]) := Lib.hid (by rw [List.take_add_one, hWj]; rfl)
                have hwx := B2.out.size
                clear hx hWj hFk hy hX3
                go_wp2_with (first
                  | (at_builtin; refine wpList_append_n shI rfl _ _ 29 rfl wo.heap.size 3 j0 _ 8 Try.underlying29 hj0 hy0 hy1 hy2 rfl (.slice qa j qc) j (W.take j) [((y : Nat) : Int)] HJL rfl OA.out (some ⟨wr.heap.size, 0, none⟩) 1 1 rfl (Lib.hid rfl) NA.out (by unfold maxLen; omega) (by omega) (by simp; omega) ?_; intro ra5 rc5 w5 own5 grow5 _; have O5 := Lib.hid own5; have B5 := Lib.hid (BA.out.grown grow5 (by simp; omega) (fun g e => (own_lt OA.out e).1)); clear own5 grow5)
                  | fail)
                go_roundw
                case rel => exact ⟨j + 1, by omega, by go_num, B5, Lib.hid (by rw [HTK.out]; exact O5.out)⟩
                case measure => simp [intOf]; omega
              · obtain rfl : j = r2 := by omega
                have hWj : W.take j = W := by rw [← HWL.out, List.take_length]
                rw [hWj] at O2
                obtain ⟨qa, qc, rfl, _⟩ := own_shape O2.out
                have HAx := Lib.hid (HA1.out.step B2.out)
                have HXB := Lib.hid hXw
                have HX4 := Lib.hid hX3
                have HNA : Hid (∀ b o, ia = some ⟨b, o, none⟩ → b < wr.heap.size) := Lib.hid fun b o e => by
                  have h1 := HIB.out b o e
                  have h2 := B2.out.size
                  have h3 := HBx.out
                  omega
                have HKF : Hid (((rowN T t).filter fun x => decide (x ∈ castL F)).length = j) := Lib.hid (by rw [HWE.out]; exact HWL.out)
                have hN9 : N ≤ 9223372036854775807 := by omega
                have f1w := (B2.out.cell (p := ⟨E, t, none⟩) hE1).trans f1
                have hE1w := Nat.lt_of_lt_of_le hE1 B2.out.size
                clear hWj hX3 hlt2 hj
                go_wp2_with (first
                  | (go_at_call 21; (with_reducible refine (clone_I (rowN T t) ua r1 uc _ HL1 HAx (by omega)).mono ?_); rintro e w4 ⟨ra, rc, rfl, hO, hb⟩; have OC := Lib.hid hO; have BC := Lib.hid hb; have XC4 := Lib.hid (one_at (heap_step HX4.out hb)); have HI5 := Lib.hid (HI4.out.step hb); have hbs := hb.size; have OW4 := Lib.hid (own_step O2.out hb); clear hO hb)
                  | (go_at_call 20; (with_reducible refine (delo_own w1.heap.size j _ OC HL1 (by omega) HXB XC4 hbs HI5 HN2 hN9 HNA HKF).mono ?_); rintro e w5 ⟨rfl, hO5, hg5⟩; rw [HWE.out] at hO5; have HQ1 := Lib.hid (Shape.At.own (S := shI) hO5 HWL.out); have HQ2 := Lib.hid (Shape.At.own (S := shI) (own_heap OW4.out fun g o hgo hoo => (hg5.block g (heap_lt hoo) (fun e => by have h1 := (own_lt O2.out hgo).2; have h2 := (own_lt OC.out e.symm).1; omega)).trans hoo) HWL.out); have BE := Lib.hid ((pstep B2.out BC.out).grown hg5 (Nat.le_trans B2.out.size hbs) (fun g e => Nat.le_trans B2.out.size (own_lt OC.out e).1)); clear hO5 hg5)
                  | (go_at_call 14; (with_reducible refine (equalQ _ HWL HQ1 HQ2 (by omega)).mono ?_); rintro e w6 ⟨rfl, q, rfl⟩; have BF := Lib.hid (below_drewN BE.out q))
                  | fail)
                go_roundw
                case rel => exact ⟨t + 1, by omega, by go_num, Lib.hid (pstep B.out BF.out)⟩
                case measure => simp [intOf]; omega
          · obtain rfl : t = n := by omega
            have HBW := Lib.hid (pstep HW3.out B.out)
            clear hlt ht B
            go_wp2_with fail
            go_ret
            exact ⟨by simp, HBW.out⟩
      · have HX : Hid (wrongN c sl l = 2 ∨ wrongN c sl l = 0 ∧ ¬ (0 ≤ tk ∧ tk ≤ 2000)) := Lib.hid (by
          rcases wrong_two c sl l with h | h
          · exact Or.inr ⟨h, fun q => hok ⟨h, q⟩⟩
          · exact Or.inl h)
        have hm9' : k ≤ 9223372036854775807 := by omega
        have hN9 : N ≤ 9223372036854775807 := by omega
        clear hok
        by_cases hok2 : wrongN c sl (ownA lvl l k) = 0 ∧ 0 ≤ tk ∧ tk ≤ 2000
        · obtain ⟨hok2, htk0, htk2⟩ := hok2
          obtain ⟨c', sl', rfl, rfl, hO⟩ := wrong_ok hok2
          obtain ⟨n, rfl⟩ : ∃ n : Nat, tk = n := ⟨tk.toNat, by omega⟩
          have HOK := Lib.hid hO
          have hn2 : n ≤ 2000 := by omega
          clear hok2 htk0 htk2 hO
          go_wp2_with (first
            | (go_at_call 8; (with_reducible refine (run_bad _ _ _ _ HA2 hm hm9' HX).mono ?_); rintro e w2 ⟨rfl, hb2⟩; have HB3 := Lib.hid (pstep HB2.out hb2); have HOA2 := Lib.hid (HOA.out.step hb2); clear hb2)
            | (go_at_call 8; (with_reducible refine (run_ok n _ HOA2 HN1 HOK hn2).mono ?_); rintro e w3 ⟨E', rfl, _, hb3⟩; have HB4 := Lib.hid (pstep HB3.out hb3); clear hb3)
            | fail)
          go_ret
          exact ⟨rfl, HB4.out⟩
        · have HX2 : Hid (wrongN c sl (ownA lvl l k) = 2 ∨ wrongN c sl (ownA lvl l k) = 0 ∧ ¬ (0 ≤ tk ∧ tk ≤ 2000)) := Lib.hid (by
            rcases wrong_two c sl (ownA lvl l k) with h | h
            · exact Or.inr ⟨h, fun q => hok2 ⟨h, q⟩⟩
            · exact Or.inl h)
          clear hok2
          go_wp2_with (first
            | (go_at_call 8; (with_reducible refine (run_bad _ _ _ _ HA2 hm hm9' HX).mono ?_); rintro e w2 ⟨rfl, hb2⟩; have HB3 := Lib.hid (pstep HB2.out hb2); have HOA2 := Lib.hid (HOA.out.step hb2); clear hb2)
            | (go_at_call 8; (with_reducible refine (run_bad _ _ _ _ HOA2 HN1 hN9 HX2).mono ?_); rintro e w3 ⟨rfl, hb3⟩; have HB4 := Lib.hid (pstep HB3.out hb3); clear hb3)
            | fail)
          go_ret
          exact ⟨rfl, HB4.out⟩
theorem coresAlone_walk (v v1 v2 v3 v4 : Value) (w : World) (h : ArgInt w v) (h1 : ArgInt w v1) (h2 : ArgThs w v2) (h3 : ArgInt w v3) (h4 : ArgInt w v4) (u : lenOf v2 ≤ 5864062014634) : Calls Try.prog 6 #[v, v1, v2, v3, v4] w fun e w' => e = .returned (.bool true) ∧ Below w.heap.size w w' := by
  obtain ⟨c, rfl⟩ := h
  obtain ⟨sl, rfl⟩ := h1
  obtain ⟨ad, cap, l, rfl, hA, _, _⟩ := h2
  obtain ⟨tk, rfl⟩ := h3
  obtain ⟨lvl, rfl⟩ := h4
  have hu : l.length ≤ 5864062014634 := u
  exact coalone_W c sl tk lvl w (Lib.hid hA) (Lib.hid rfl) hu
end Go.Proofs.Ytningajaimbncaa
