/- TtyPlain: the walk. -/
import Derived.Test.YtomgifdnnfbpnaaDoorPlA
import Derived.Test.YtomgifdnnfbpnaaDoorTReads
import Derived.Test.YtomgifdnnfbpnaaDoorHldM
import Derived.Deep.RegionHeld3
namespace Go.Proofs.YtomgifdnnfbpnaaDoor
open Go.RowKit

set_option maxHeartbeats 8000000 in
set_option maxRecDepth 100000 in
theorem tp_s0 {la : Option Addr} {lc n : Nat} (w : World) (most : Int) (h : most < 1) :
    Calls Tryd.prog 6 #[.slice la n lc, .int .i64 most] w fun e w' => e = .returned (.bool true) ∧ Below w.heap.size w w' := by
  have d0 : decide (most < 1) = true := decide_eq_true h
  go_enter Tryd.func6, Tryd.ntmps6
  go_wp2_with (first
    | (go_at_call 18; (with_reducible refine (alive17_N _).mono ?_); rintro e w1 ⟨rfl, hb⟩; have B1 := Lib.hid hb; clear hb)
    | fail)
  go_ret
  exact ⟨rfl, B1.out⟩
set_option maxHeartbeats 8000000 in
set_option maxRecDepth 100000 in
theorem tp_s1 {la : Option Addr} {lc n : Nat} (w : World) (most : Int) (h0 : ¬ most < 1) (h : n > 50) :
    Calls Tryd.prog 6 #[.slice la n lc, .int .i64 most] w fun e w' => e = .returned (.bool true) ∧ Below w.heap.size w w' := by
  have d0 : decide (most < 1) = false := decide_eq_false h0
  have d1 : decide ((n : Int) > 50) = true := decide_eq_true (by omega)
  go_enter Tryd.func6, Tryd.ntmps6
  go_wp2_with (first
    | (go_at_call 18; (with_reducible refine (alive17_N _).mono ?_); rintro e w1 ⟨rfl, hb⟩; have B1 := Lib.hid hb; clear hb)
    | fail)
  go_ret
  exact ⟨rfl, B1.out⟩
set_option maxHeartbeats 8000000 in
set_option maxRecDepth 100000 in
theorem tp_main {la : Option Addr} {lc n : Nat} {ls : List (List UInt8)} (w : World) (HL : Hid (LnsAt w la lc ls)) (hn : Hid (ls.length = n)) (most : Int) (h0 : ¬ most < 1) (h1 : n ≤ 50) :
    Calls Tryd.prog 6 #[.slice la n lc, .int .i64 most] w fun e w' => e = .returned (.bool true) ∧ Below w.heap.size w w' := by
  obtain ⟨i0, hi, hz0, hz1, hz2⟩ := info_parts' info_byte
  have d0 : decide (most < 1) = false := decide_eq_false h0
  have d1 : decide ((n : Int) > 50) = false := decide_eq_false (by omega)

  have HK1 : Hid (([10] : List UInt8).length = 1) := Lib.hid rfl
  go_enter Tryd.func6, Tryd.ntmps6
  go_wp2_with (first
    | (go_at_call 18; (with_reducible refine (alive17_N _).mono ?_); rintro e w1 ⟨rfl, hb⟩; have B1 := Lib.hid hb; clear hb)
    | fail)
  go_loopw [5, 24] (fun v i wr => ∃ (k K : Nat) (ra : Option Addr) (rc : Nat), k ≤ n ∧ i = .int .i64 k ∧ v = .slice ra K rc ∧ K ≤ k * 65 ∧ Hid (∀ l ∈ ls.take k, l.length ≤ 64 ∧ ∀ b ∈ l, plainQ b) ∧ Hid (Que shB wr w.heap.size tB (.slice ra K rc) K (keysQ (ls.take k))) ∧ Hid (Below w.heap.size w wr)) (fun _ i _ => n - (intOf i).toNat)
  case atStart => exact ⟨0, 0, none, 0, Nat.zero_le _, rfl, rfl, Nat.zero_le _, Lib.hid (fun _ hx => by cases hx), Lib.hid (que_nil _ _ _ _), B1⟩
  case round =>
    clear B1
    obtain ⟨k, K, ra, rc, hk, rfl, rfl, hK, HP, HO, HB⟩ := hrel
    by_cases hlt : k < n
    · obtain ⟨l, hl⟩ : ∃ l, ls[k]? = some l := ⟨ls[k]'(by rw [hn.out]; exact hlt), List.getElem?_eq_getElem _⟩
      obtain ⟨b, off, a, c, rfl, hb, hc, ha⟩ := at_line (HL.out.step HB.out) hl
      have HA := Lib.hid ha
      have HLL := Lib.hid hl
      obtain ⟨y, hy⟩ : ∃ y, l.length = y := ⟨_, rfl⟩
      have HY := Lib.hid hy
      rw [hy] at hc
      clear hl hy ha
      by_cases hy6 : y > 64
      · have d2 : decide ((y : Int) > 64) = true := decide_eq_true (by omega)
        go_wp2_with fail
        go_ret
        exact ⟨rfl, HB.out⟩
      have d2 : decide ((y : Int) > 64) = false := decide_eq_false (by omega)
      by_cases hx : l.any pE = true
      · have HX := Lib.hid hx
        go_wp2_with (first
          | (go_at_call 21; (with_reducible refine (conP_W _ HA HY (by omega) true HX).mono ?_); rintro e w3 ⟨rfl, rfl⟩)
          | fail)
        go_ret
        exact ⟨rfl, HB.out⟩
      have HX : Hid (l.any pE = false) := Lib.hid (by simpa using hx)
      have HPL : Hid (∀ x ∈ l, plainQ x) := Lib.hid (fun x hx' => by
        have h7 := List.any_eq_false.1 HX.out x hx'
        unfold pE at h7
        simpa using h7)
      clear hx
      go_wp2_with (first
        | (go_at_call 21; (with_reducible refine (conP_W _ HA HY (by omega) false HX).mono ?_); rintro e w3 ⟨rfl, rfl⟩)
        | (at_builtin; refine wpList_append_que shB rfl _ _ 23 rfl w.heap.size 5 i0 _ 1 Tryd.underlying23 hi hz0 hz1 hz2 rfl (.slice ra K rc) K (keysQ (ls.take k)) l rfl HO.out a y c rfl HY HA.out (by unfold maxLen; omega) (by omega) HB.out.size ?_; intro r4 c4 w4 own4 grow4 new4; have B5 := Lib.hid (pstep (HB.out.grown grow4 HB.out.size (fun q hq => (que_lt HO.out hq).1)) (below_alloc w4 (.cells #[.int .u8 10] 5))); have O5 := Lib.hid (que_step own4 (below_alloc w4 (.cells #[.int .u8 10] 5))); have L5 := Lib.hid (lit10 w4 1); clear own4 grow4 new4)
        | (at_builtin; refine wpList_append_que shB rfl _ _ 23 rfl w.heap.size 5 i0 _ 1 Tryd.underlying23 hi hz0 hz1 hz2 rfl (.slice r4 (K + y) c4) (K + y) (keysQ (ls.take k) ++ l) [10] rfl O5.out (some ⟨w4.heap.size, 0, none⟩) 1 1 rfl HK1 L5.out (by unfold maxLen; omega) (by omega) B5.out.size ?_; intro r6 c6 w6 own6 grow6 new6; have O6 := Lib.hid own6; have B6 := Lib.hid (B5.out.grown grow6 B5.out.size (fun q hq => (que_lt O5.out hq).1)); clear own6 grow6 new6)
        | fail)
      go_roundw
      case rel => exact ⟨k + 1, K + y + 1, r6, c6, by omega, by go_num, rfl, by omega, Lib.hid (all_next HLL.out HP.out ⟨by rw [HY.out]; omega, HPL.out⟩), Lib.hid (by rw [keysQ_next HLL.out]; exact O6.out), B6⟩
      case measure => simp [intOf]; omega
    · obtain rfl : k = n := by omega
      have e : ls.take k = ls := by rw [← hn.out, List.take_length]
      rw [e] at HP HO
      have HKA := Lib.hid (que_at HO.out)
      have HKL : Hid ((keysQ ls).length = K) := Lib.hid (que_len HO.out)
      have HS : Hid (typeQ newQ (keysQ ls) = ⟨ls.map fun l => l ++ [10], []⟩) := Lib.hid (lines_Q (had := []) HP.out (by rw [hn.out]; simp; omega))
      have HN : Hid ((ls.map fun l => l ++ [10]).length = k) := Lib.hid (by simp [hn.out])
      have HM0 : Hid (([] : List UInt8).length = 0) := Lib.hid rfl
      have hK3 : K ≤ 3250 := by omega
      clear e hlt hk HO hK
      go_wp2_with (first
        | (go_at_call 16; (with_reducible refine (type_W _ HKA HKL (by omega) _ HS k 0 HN HM0).mono ?_); rintro e w2 ⟨ta, tc, tb, td, rfl, q1, q2, hb⟩; obtain ⟨hs0, p0⟩ := pl_start (N := k) (n := 0) (tb := tb) (td := td) q1; have P0 := Lib.hid p0; have E2 := Lib.hid q2; have K2 := Lib.hid (HKA.out.step hb); have B2 := Lib.hid (pstep HB.out hb); clear p0 q1 q2 hb)
        | fail)
      go_loopw [9, 46] (fun g i wr => ∃ (j gn N : Nat) (ga : Option Addr) (gc : Nat) (ya yb : Option Addr) (yc yd : Nat) (ys : List (List UInt8)) (got : List UInt8) (hs : List Hd), j ≤ gn ∧ i = .int .i64 j ∧ g = .slice ga gn gc ∧ gn ≤ K ∧ Hid (ys.length = N) ∧ Hid (GoodQ ⟨ys, []⟩) ∧ Hid (∀ l ∈ ys, ¬ l = []) ∧ Hid (got ++ flatQ ⟨ys, []⟩ = keysQ ls) ∧ Hid (shB.At w2 yb yd []) ∧ Hid (Pl w2 wr N 0 gn ya yb yc yd ys (.slice ga gn gc) got hs)) (fun _ i _ => K + 1 - (intOf i).toNat)
      case atStart => exact ⟨0, 0, k, none, 0, ta, tb, tc, td, _, [], hs0, Nat.le_refl _, rfl, rfl, Nat.zero_le _, HN, Lib.hid (by rw [← HS.out]; exact good_typeQ good_newQ), Lib.hid (fun l hl => by
        obtain ⟨x, _, rfl⟩ := List.mem_map.1 hl
        simp), Lib.hid (by simp [flatQ, keysQ, List.flatMap]), E2, P0⟩
      case round =>
        clear P0 E2 HN
        obtain ⟨j, gn, N, ga, gc, ya, yb, yc, yd, ys, got, hs, hj, rfl, rfl, hgK, HN, HG, HNE, HF, HE, HPl⟩ := hrel
        have d5 : decide ((j : Int) < ((K : Int) + 1)) = true := decide_eq_true (by omega)
        have G := pair_at HPl.out.h
        have l2 := heap_lt HPl.out.h
        have HLs : Hid (LnsAt wr ya yc ys) := Lib.hid ⟨hs, HPl.out.l.a, HPl.out.l.i⟩
        have HEd : Hid (shB.At wr yb yd []) := Lib.hid (at_any HE.out)
        have hr : rgtQ ys N 0 = true := by
          have h := good_rgt HG.out
          simp only [HN.out] at h
          exact h
        by_cases h9 : N = 0
        · subst h9
          obtain rfl : ys = [] := List.eq_nil_of_length_eq_zero HN.out
          obtain rfl : got = keysQ ls := by have h := HF.out; simpa [flatQ] using h
          obtain rfl : gn = K := by rw [← HKL.out]; exact (que_len HPl.out.g).symm
          have HR := Lib.hid (read_bad (m := 0) (ea := yb) (ec := yd) wr HLs HN most true (Lib.hid hr) 7 (Or.inr (Or.inr ⟨rfl, (by omega), rfl, rfl⟩)))
          go_wp2_with (first
            | (go_at_call 11; (with_reducible refine HR.out.mono ?_); rintro e w5 ⟨ua, uc, ub, ud, xa, xc, rfl, z1, z2, z3, hb⟩; have P5 := Lib.hid ((HPl.out.step hb).step (below_alloc w5 (.cells #[.slice ua 0 uc, .slice ub 0 ud] 25))); have C1 := conv_at (que_at P5.out.g) HKL.out; have C2 := conv_at (K2.out.step P5.out.b) HKL.out; have G5 := pair_at P5.out.h; have l5 := heap_lt P5.out.h; have S5 : Hid (LnsAt (w5.alloc (.cells #[.slice ua 0 uc, .slice ub 0 ud] 25)) ya yc []) := Lib.hid ⟨hs, P5.out.l.a, P5.out.l.i⟩; have S6 : Hid (shB.At (w5.alloc (.cells #[.slice ua 0 uc, .slice ub 0 ud] 25)) yb yd []) := Lib.hid (at_any HE.out); clear z1 z2 z3 hb)
            | (go_at_call 15; (with_reducible refine (same_T _ HN HM0 (by omega) S5 S6 (Lib.hid (LnsAt.nil _)) (Lib.hid (Shape.At.nil _))).mono ?_); rintro e w6 ⟨rfl, hb⟩; have B6 := Lib.hid (pstep (pstep B2.out P5.out.b) hb); clear hb)
            | fail)
          go_ret
          exact ⟨rfl, B6.out⟩
        · obtain ⟨m, hm⟩ : ∃ m, most.toNat = m := ⟨_, rfl⟩
          have hm1 : 0 < m := by omega
          have hne : ¬ ys = [] := fun q => h9 (by rw [← HN.out, q]; rfl)
          have hR := read_F (s := ⟨ys, []⟩) wr HLs HN HEd HM0 most hr (by omega) hne
          have hO := read_one (s := ⟨ys, []⟩) hm1 HNE.out hne
          have hGZ := good_restQ HG.out m
          rw [hm] at hR
          generalize restQ ⟨ys, []⟩ m = rq at hR hO hGZ
          generalize gotQ ⟨ys, []⟩ m = p at hR hO
          obtain ⟨o1, o2, o3, o4, o5⟩ := hO
          obtain ⟨zs, ze⟩ := rq
          simp only at o5
          subst o5
          obtain ⟨y, hy⟩ : ∃ y, p.length = y := ⟨_, rfl⟩
          obtain ⟨N', hN'⟩ : ∃ n, zs.length = n := ⟨_, rfl⟩
          have HYP := Lib.hid hy
          have HNZ := Lib.hid hN'
          have HGZ := Lib.hid hGZ
          have HNEZ : Hid (∀ l ∈ zs, ¬ l = []) := Lib.hid o2
          have HFZ := Lib.hid o1
          simp only at hR
          rw [hy, hN'] at hR
          rw [hy] at o3 o4
          have HR := Lib.hid hR
          have hlen : gn + y ≤ K := by
            have h := congrArg List.length HF.out
            rw [HKL.out, List.length_append, que_len HPl.out.g, ← o1, List.length_append, hy] at h
            omega
          have d6 : decide ((y : Int) > most) = false := decide_eq_false (by omega)
          clear hR hGZ o1 o2 hy hN' hne hr
          go_upto_region 21 with (first
            | (go_at_call 11; (with_reducible refine HR.out.mono ?_); rintro e w5 ⟨ua, uc, ub, ud, xa, xc, rfl, z1, z2, z3, hb⟩; obtain ⟨gs, pz⟩ := pz_new (N := N') (ub := ub) (ud := ud) HPl.out hb z1; have Z5 := Lib.hid pz; have X5 := Lib.hid (z3.step (below_alloc w5 (.cells #[.slice ua N' uc, .slice ub 0 ud] 25))); have E5 := Lib.hid z2; have G5 := pair_at Z5.out.u; have l5 := heap_lt Z5.out.u; clear z1 z2 z3 hb pz)
            | fail)
          clear G l2 HR HLs HEd HPl
          have Z6 : Hid (PZ w2 (w5.alloc (.cells #[.slice ua N' uc, .slice ub 0 ud] 25)) w5.heap.size N' gn ua ub uc ud zs (.slice ga gn gc) got gs ya yb N 0 yc yd) := Z5
          clear Z5 G5 l5
          have Z5 := Z6
          clear Z6
          generalize w5.heap.size = U at Z5 ⊢
          have Zd := Lib.hid (Z5.out.step (Below.refl _ _).drew)
          have Xd := Lib.hid (X5.out.step (Below.refl _ _).drew)
          refine wp_region_noPanic ?_
          refine wp_region_held_drew (S := fun w' => w'.cell? ⟨U, 0, none⟩ = some (.slice ua N' uc) ∧ w'.cell? ⟨U, 1, none⟩ = some (.slice ub 0 ud)) (by kernel_rfl) (pair_at Zd.out.u) (fun hHeld => ?_)
          clear Z5 X5
          generalize World.drew _ = wq at hHeld Zd Xd ⊢
          refine wpAnyH_take (i := 0) (v := ?_) rfl (by kernel_rfl) (by kernel_rfl) (by kernel_rfl) (fun _ _ _ h => h) (Or.inl ⟨by rfl, ?_⟩) (by assumption) ?_
          rotate_left
          · (intro wz hSw; (try dsimp only at hSw); go_simp; try with_reducible rfl)
          try simp only [List.getElem_toArray, List.getElem_cons_zero, Act.put, List.setIfInBounds_toArray, List.set_cons_zero, List.set_cons_succ]
          refine wpAnyH_take (i := 1) (v := ?_) rfl (by kernel_rfl) (by kernel_rfl) (by kernel_rfl) (fun _ _ _ h => h) (Or.inl ⟨by rfl, ?_⟩) (by assumption) ?_
          rotate_left
          · (intro wz hSw; (try dsimp only at hSw); go_simp; try with_reducible rfl)
          try simp only [List.getElem_toArray, List.getElem_cons_zero, List.getElem_cons_succ, Act.put, List.setIfInBounds_toArray, List.set_cons_zero, List.set_cons_succ]
          refine wpAnyH_take (i := 2) (v := ?_) rfl (by kernel_rfl) (by kernel_rfl) (by kernel_rfl) (fun _ _ _ h => h) (Or.inl ⟨by rfl, ?_⟩) (by assumption) ?_
          rotate_left
          · (intro wz hSw; (try dsimp only at hSw); go_simp; try with_reducible rfl)
          try simp only [List.getElem_toArray, List.getElem_cons_zero, List.getElem_cons_succ, Act.put, List.setIfInBounds_toArray, List.set_cons_zero, List.set_cons_succ]
          refine wpAnyH_ready (rs := [3]) (by kernel_rfl) (by simp) ?_
          refine AllReadyH.cons rfl (fun K hK => ?_) AllReadyH.nil
          refine step_append_que shB rfl _ _ 23 rfl w2.heap.size 5 i0 _ 1 Tryd.underlying23 hi hz0 hz1 hz2 rfl (.slice ga gn gc) gn got p rfl Zd.out.g xa y xc rfl HYP Xd.out (by unfold maxLen; omega) (by omega) Zd.out.b.size ?_
          intro r7 c7 w7 own7 grow7 new7
          have Z7 := Lib.hid (Zd.out.put own7 grow7 new7)
          clear own7 grow7 new7
          refine hK.out _ _ (pair_at Z7.out.u) (fun hHeld => ?_)
          try simp only [List.getElem_toArray, List.getElem_cons_zero, List.getElem_cons_succ, Act.put, List.setIfInBounds_toArray, List.set_cons_zero, List.set_cons_succ]
          refine wpAnyH_ready (rs := [4]) (by kernel_rfl) (by simp) ?_
          refine AllReadyH.cons rfl (fun K hK => ?_) AllReadyH.nil
          have GT := pair_at Z7.out.h
          have FT := fun i => frozen_of_row w7 w2.heap.size i _ _ Z7.out.h
          have lT := heap_lt Z7.out.h
          go_simp
          have Z8 := Lib.hid (Z7.out.store (va := ua) (p := N') (pc := uc) (vb := ub) (q := 0) (qc := ud))
          refine hK.out _ _ (pair_at Z8.out.u) (fun hHeld => ?_)
          try simp only [List.getElem_toArray, List.getElem_cons_zero, List.getElem_cons_succ, Act.put, List.setIfInBounds_toArray, List.set_cons_zero, List.set_cons_succ]
          refine wpAnyH_take (i := 5) (v := ?_) rfl (by kernel_rfl) (by kernel_rfl) (by kernel_rfl) (fun _ _ _ h => h) (Or.inl ⟨by rfl, ?_⟩) (by assumption) ?_
          rotate_left
          · (intro wz hSw; (try dsimp only at hSw); go_simp; try with_reducible rfl)
          try simp only [List.getElem_toArray, List.getElem_cons_zero, List.getElem_cons_succ, Act.put, List.setIfInBounds_toArray, List.set_cons_zero, List.set_cons_succ]
          refine wpAnyH_done (by kernel_rfl) ?_ _
          refine NoPanic.normal ?_
          go_wp2_with fail
          go_roundw
          case rel => exact ⟨j + 1, gn + y, N', r7, c7, ua, ub, uc, ud, zs, got ++ p, gs, by omega, by go_num, rfl, by omega, HNZ, HGZ, HNEZ, Lib.hid (by rw [List.append_assoc, HFZ.out]; exact HF.out), Lib.hid (at_any E5.out), Lib.hid Z8.out.pl⟩
          case measure => simp [intOf]; omega
theorem ttyPlain_walk (v v1 : Value) (w : World) (h : ArgLns w v) (h1 : ArgInt w v1) : Calls Tryd.prog 6 #[v, v1] w fun e w' => e = .returned (.bool true) ∧ Below w.heap.size w w' := by
  obtain ⟨la, lc, ls, rfl, A1, _, _⟩ := h
  obtain ⟨most, rfl, _⟩ := h1
  by_cases h0 : most < 1
  · exact tp_s0 w most h0
  · by_cases h5 : ls.length > 50
    · exact tp_s1 w most h0 h5
    · exact tp_main w (Lib.hid A1) (Lib.hid rfl) most h0 (by omega)
end Go.Proofs.YtomgifdnnfbpnaaDoor
