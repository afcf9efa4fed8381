/- corebellref.NRun: the walk. -/
import Derived.Test.YtningajaimbncaaCorW
import Derived.Deep.Cut
import Derived.Deep.RegionHeld3
import Derived.Deep.RegionLaw
namespace Go.Proofs.Ytningajaimbncaa
open Go.RowKit

/-- Who has been picked, q levels down; and i along the line. -/
def PkO (aq : Nat → List Nat) (c q : Nat) : List Nat := (topF aq q).take c
def PkI (T : ThN) (t : Nat) (aq : Nat → List Nat) (LN : List Nat) (c q i : Nat) : List Nat := (topF aq q ++ (LN.take i).filter fun x => decide (T.lev x = 31 - q ∧ 0 < (T.stN t).left x)).take c
theorem pkO_zero (aq : Nat → List Nat) (c : Nat) : PkO aq c 0 = [] := List.take_nil
theorem pkI_zero (T : ThN) (t : Nat) (aq : Nat → List Nat) (LN : List Nat) (c q : Nat) : PkI T t aq LN c q 0 = PkO aq c q := by unfold PkI PkO; simp
theorem pkI_le (T : ThN) (t : Nat) (aq : Nat → List Nat) (LN : List Nat) (c q i : Nat) : (PkI T t aq LN c q i).length ≤ c := by unfold PkI; rw [List.length_take]; omega
theorem pkI_next {T : ThN} {t : Nat} {aq : Nat → List Nat} {LN : List Nat} {c q i k : Nat} (hk : LN[i]? = some k) : PkI T t aq LN c q (i + 1) = if (T.lev k = 31 - q ∧ 0 < (T.stN t).left k) ∧ (PkI T t aq LN c q i).length < c then PkI T t aq LN c q i ++ [k] else PkI T t aq LN c q i := by
  unfold PkI
  rw [filter_next (fun x => decide (T.lev x = 31 - q ∧ 0 < (T.stN t).left x)) hk]
  by_cases h : T.lev k = 31 - q ∧ 0 < (T.stN t).left k
  · rw [if_pos (decide_eq_true h), ← List.append_assoc]
    obtain ⟨F, hF⟩ : ∃ F, topF aq q ++ (LN.take i).filter (fun x => decide (T.lev x = 31 - q ∧ 0 < (T.stN t).left x)) = F := ⟨_, rfl⟩
    rw [hF, take_push]
    by_cases h2 : (F.take c).length < c
    · rw [if_pos h2, if_pos ⟨h, h2⟩]
    · rw [if_neg h2, if_neg fun q => h2 q.2]
  · rw [if_neg (by rw [decide_eq_true_eq]; exact h), List.append_nil, if_neg fun q => h q.1]
theorem pkI_end {T : ThN} {t : Nat} {aq : Nat → List Nat} {LN : List Nat} {c q N : Nat} (hN : LN.length = N) (hq : (LN.filter fun x => decide (T.lev x = 31 - q ∧ 0 < (T.stN t).left x)) = aq (31 - q)) : PkI T t aq LN c q N = PkO aq c (q + 1) := by
  unfold PkI PkO
  rw [← hN, List.take_length, hq]
  rfl
theorem inv0 (T : ThN) (k : Nat) : lfA T 0 0 k = 0 := by unfold lfA; rw [if_neg (by omega)]
theorem mv_at {T : ThN} {t k : Nat} {R : List Nat} {mv : Nat → Bool} (h : T.movN (T.atN t) R = mv) (hk : k ∈ R) : mv k = decide (((T.stN t).ran k + 1) % T.sl = 0) := by
  rw [← h]
  unfold ThN.movN
  exact decide_eq_decide.2 ⟨fun q => q.2, fun q => ⟨hk, q⟩⟩
theorem mvL_len (mv : Nat → Bool) (R l : List Nat) : (mvL mv R l).length ≤ l.length + R.length := by
  unfold mvL
  rw [List.length_append]
  have h1 := List.length_filter_le (fun x => !decide (x ∈ R.filter mv)) l
  have h2 := List.length_filter_le mv R
  omega
theorem castL_rem (k : Nat) (l : List Nat) : castL ((l.filter fun x => decide (¬ x = k)) ++ [k]) = ((castL l).filter fun x => decide (¬ x = ((k : Nat) : Int))) ++ [((k : Nat) : Int)] := by
  unfold castL
  rw [List.map_append, List.filter_map]
  congr 2
  exact List.filter_congr fun x _ => by simp; omega
/-- The number's box, and what was there before. -/
structure Bw (w1 : World) (bx : Nat) (x : Int) (wx : World) : Prop where
  b : Below w1.heap.size w1 wx
  o : wx.heap[bx]? = some (.cells #[.int .i64 x] 3 (0, 0))
  l : bx < w1.heap.size
section
variable {w1 wx wy : World} {b : Nat} {x : Int}
theorem Bw.step (h : Bw w1 b x wx) (hb : Below wx.heap.size wx wy) : Bw w1 b x wy := ⟨pstep h.b hb, heap_step h.o hb, h.l⟩
theorem Bw.all (h : Bw w1 b x wx) : Bw w1 b x wx ∧ wx.cell? ⟨b, 0, none⟩ = some (.int .i64 x) := ⟨h, one_at h.o⟩
theorem Bw.drew (h : Bw w1 b x wx) : Bw w1 b x wx.drew := ⟨h.b.drew, h.o, h.l⟩
theorem Bw.alloc (h : Bw w1 b x wx) (o : Obj) : Bw w1 b x (wx.alloc o) := h.step (below_alloc _ _)
theorem Bw.grown {M n : Nat} {e size : Nat} {v : Value} {xs : List Value} (h : Bw w1 b x wx) (ho : wx.ownsRow M e size v n xs) (hM : w1.heap.size ≤ M) (hg : wx.grownBy wy v.ownBlock) : Bw w1 b x wy :=
  ⟨h.b.grown hg h.b.size (fun _ hk => Nat.le_trans hM (own_lt ho hk).1), (hg.block _ (heap_lt h.o) (fun e => by have := (own_lt ho e.symm).1; have := h.l; omega)).trans h.o, h.l⟩
end
set_option maxHeartbeats 4000000 in
set_option maxRecDepth 100000 in
theorem nrun_W {ad : Option Addr} {cap m : Nat} {l : List ThT} {c sl : Nat} (n : Nat) (w : World) (HA : Hid (shT.At w ad cap l)) (hm : Hid (l.length = m)) (hok : Hid (OkT l c sl)) (hn : n ≤ 2000) :
    Calls Try.prog 12 #[.int .i64 (c : Nat), .int .i64 (sl : Nat), .slice ad m cap, .int .i64 (n : Nat)] w fun e w' => ∃ ra rc, e = .returned (.slice ra n rc) ∧ RunsAt w' ra rc n (rowN (thN l c sl)) ∧ Below w.heap.size w w' := by
  obtain ⟨i0, hi, hz0, hz1, hz2⟩ := info_parts info_int
  obtain ⟨j0, hj0, hy0, hy1, hy2⟩ := info_parts' info_int
  obtain ⟨k0, hk0, hx0, hx1, hx2⟩ := info_parts' info_ints
  have hm64 : m ≤ 64 := by rw [← hm.out]; exact hok.out.len
  have hb0 : i0.bytes * m ≤ 281474976710656 := by rw [hz2]; omega
  have hmk : m ≤ maxLen := by unfold maxLen; omega
  have HLEV := Lib.hid hok.out.lev
  have HTM : Hid ((thN l c sl).m = m) := hm
  have HTC : Hid ((thN l c sl).c = c) := Lib.hid rfl
  have HTS : Hid ((thN l c sl).sl = sl) := Lib.hid rfl
  have HTT := Lib.hid (fun (k : Nat) (x : ThT) (hx : l[k]? = some x) => hok.out.at' hx)
  have hc8 : c ≤ 8 := hok.out.c8
  have hs1 : 1 ≤ sl := hok.out.s1
  have hs2 : sl ≤ 100 := hok.out.s2
  obtain ⟨T, hT⟩ : ∃ T, thN l c sl = T := ⟨_, rfl⟩
  rw [hT] at HLEV HTM HTC HTS HTT ⊢
  obtain ⟨wA, hrun1, hown1, hg1⟩ := run_make_full (P := Try.prog) w.drew w.heap.size 29 3 i0 _ 1 Try.underlying29 hi hz0 hz1 .i64 .i64 m hb0 hmk (Nat.le_refl _)
  obtain ⟨wB, hrun2, hown2, hg2⟩ := run_make_full (P := Try.prog) wA w.heap.size 29 3 i0 _ 1 Try.underlying29 hi hz0 hz1 .i64 .i64 m hb0 hmk (by have := hg1.size; simpa using this)
  have hA0 : Below w.heap.size w wA := ((Below.refl w.heap.size w).drew).grown hg1 (Nat.le_refl _) (fun k hk => by cases hk)
  have hB0 : Below wA.heap.size wA wB := (Below.refl wA.heap.size wA).grown hg2 (Nat.le_refl _) (fun k hk => by cases hk)
  have rA : RowZ wA w.heap.size m (fun _ => 0) := RowZ.made (by rw [Nat.mul_one] at hown1; exact hown1)
  have rB : RowZ wB wA.heap.size m (fun _ => 0) := RowZ.made (by rw [Nat.mul_one] at hown2; exact hown2)
  have hAB := rA.lt
  have hBB := rB.lt
  have hBs := hB0.size
  have HLV : Hid (∀ BL BR, (BL = w.heap.size ∧ BR = wA.heap.size ∨ BL = wA.heap.size ∧ BR = w.heap.size) → LpV w wB.heap.size wB BL BR m (lfA T 0 0) (fun k => (((T.stN 0).ran k : Nat) : Int)) (.slice none 0 0) [] (.slice none 0 0) 0 (rowN T) wB.heap.size) := Lib.hid fun BL BR h => by
    have r0 : RowZ wB w.heap.size m (fun _ => 0) := rA.step hB0
    rcases h with ⟨rfl, rfl⟩ | ⟨rfl, rfl⟩
    · exact ⟨pstep hA0 hB0, r0.congr fun i _ => inv0 T i, rB.congr fun i _ => rfl, ⟨Nat.le_refl _, by omega⟩, ⟨by omega, hBB⟩, by omega, ⟨Nat.le_refl _, Nat.le_refl _⟩, World.ownsRow_nil _ _ _ _, [], World.ownsRow_nil _ _ _ _, rfl, fun i p hp => by simp at hp⟩
    · exact ⟨pstep hA0 hB0, rB.congr fun i _ => inv0 T i, r0.congr fun i _ => rfl, ⟨by omega, hBB⟩, ⟨Nat.le_refl _, by omega⟩, by omega, ⟨Nat.le_refl _, Nat.le_refl _⟩, World.ownsRow_nil _ _ _ _, [], World.ownsRow_nil _ _ _ _, rfl, fun i p hp => by simp at hp⟩
  have hwd : w.drew.heap.size = w.heap.size := rfl
  rw [hwd] at hrun1
  clear hown1 hown2 hg1 hg2 hA0 hB0 rA rB hAB hBB hBs hT hwd
  go_enter Try.func12, Try.ntmps12
  go_upto_region 2 with fail
  go_cut [10, 11] from 22 to 27 (fun a b wy => ∃ BL BR b1, a = .slice (some ⟨BL, 0, none⟩) m m ∧ b = .slice (some ⟨BR, 0, none⟩) m m ∧ Hid (LpV w b1 wy BL BR m (lfA T 0 0) (fun k => (((T.stN 0).ran k : Nat) : Int)) (.slice none 0 0) [] (.slice none 0 0) 0 (rowN T) b1))
  case first =>
    go_region
    all_goals go_wp2_with fail
    all_goals go_meet
    all_goals exact ⟨_, _, _, rfl, rfl, Lib.hid (HLV.out _ _ (by first | exact Or.inl ⟨rfl, rfl⟩ | exact Or.inr ⟨rfl, rfl⟩))⟩
  case rest =>
    obtain ⟨BL, BR, b1, rfl, rfl, L0⟩ := hcut
    clear hrun1 hrun2 HLV
    go_wp2_with fail
    go_loopw [9, 12, 29] (fun lv ov i wr => ∃ (t : Nat) (ln : List Nat) (ob : Nat), t ≤ n ∧ i = .int .i64 t ∧ Hid (LpV w b1 wr BL BR m (lfA T t 0) (fun k => (((T.stN t).ran k : Nat) : Int)) lv ln ov t (rowN T) ob) ∧ Hid (TieL T t ln (T.stN t))) (fun _ _ i _ => n - (intOf i).toNat)
    case atStart => exact ⟨0, [], b1, Nat.zero_le _, rfl, L0, Lib.hid (tie_newL T)⟩
    case round =>
      clear L0
      obtain ⟨t, ln, ob, ht, rfl, L, HT⟩ := hrel
      by_cases hlt : t < n
      · have HI := Lib.hid (inv_st HLEV.out t)
        have HTA := Lib.hid (HT.out.arr HI.out)
        have hlen : (ln ++ cameN T t m).length ≤ 64 := by
          have := nod_len HTA.out.nod fun k hk => (HTA.out.mem k hk).1
          rw [HTM.out] at this
          omega
        rw [List.length_append] at hlen
        go_upto_region 8 with fail
        go_wp2_with fail
        obtain ⟨wo, rfl⟩ : ∃ wo : World, wo = wr := ⟨_, rfl⟩
        go_loopw [9, 34] (fun v i wr => ∃ k : Nat, k ≤ m ∧ i = .int .i64 k ∧ Hid (LpV w b1 wr BL BR m (lfA T t k) (fun k => (((T.stN t).ran k : Nat) : Int)) v (ln ++ cameN T t k) u12 t (rowN T) ob)) (fun _ i _ => m - (intOf i).toNat)
        case atStart => exact ⟨0, Nat.zero_le _, rfl, Lib.hid (by rw [show cameN T t 0 = [] from rfl, List.append_nil]; exact L.out)⟩
        case round =>
          clear L
          obtain ⟨k, hk, rfl, L⟩ := hrel
          by_cases hlt2 : k < m
          · obtain ⟨x, hx⟩ : ∃ x, l[k]? = some x := ⟨l[k]'(by rw [hm.out]; exact hlt2), List.getElem?_eq_getElem _⟩
            obtain ⟨b, off, rfl, hbl, g0, g1, g2⟩ := at_th (HA.out.step L.out.b) hx
            obtain ⟨f0, -, f2, -, -, -⟩ := HTT.out k x hx
            obtain ⟨tc, tl, tw⟩ := x
            simp only at g0 g1 g2 f0 f2
            obtain ⟨y, hy⟩ : ∃ y, T.come k = y := ⟨_, rfl⟩
            obtain ⟨z, hz⟩ : ∃ z, T.work k = z := ⟨_, rfl⟩
            rw [hy] at f0
            rw [hz] at f2
            rw [f0] at g0
            rw [f2] at g2
            have HY := Lib.hid hy
            have HZ := Lib.hid hz
            have HS := Lib.hid (came_succ T t k)
            have HNX := Lib.hid (fun x => lfA_next HLEV.out (t := t) (i := k) x)
            have hcl := came_mono T t hlt2
            have LA := Lib.hid (L.out.step (below_alloc wr (.cells #[.int .i64 (y : Nat), .int .i64 tl, .int .i64 (z : Nat)] 35)))
            clear hx f0 f2 hy hz
            by_cases h1 : y = t
            · rw [h1] at HY g0 LA
              clear h1
              obtain ⟨sa, sc, rfl, _⟩ := own_shape L.out.line
              obtain ⟨LN, hLN⟩ : ∃ LN, ln ++ cameN T t k = LN := ⟨_, rfl⟩
              have HLN := Lib.hid hLN
              obtain ⟨N, hN⟩ : ∃ N, LN.length = N := ⟨_, rfl⟩
              have HN := Lib.hid hN
              have hN64 : N ≤ 64 := by
                rw [HS.out, if_pos HY.out, List.length_append] at hcl
                simp at hcl
                rw [← hN, ← hLN, List.length_append]
                omega
              simp only [hLN] at LA L ⊢
              simp only [hN] at LA L ⊢
              have BB := below_alloc (wr.alloc (.cells #[.int .i64 (t : Nat), .int .i64 tl, .int .i64 (z : Nat)] 35)) (.cells #[.int .i64 (k : Nat)] 3)
              have L2 := Lib.hid (LA.out.step BB)
              have O2 : Hid (((wr.alloc (.cells #[.int .i64 (t : Nat), .int .i64 tl, .int .i64 (z : Nat)] 35)).alloc (.cells #[.int .i64 (k : Nat)] 3)).ownsRow b1 3 1 (.slice sa N sc) N (shI.flat (castL LN))) := Lib.hid (by have := L2.out.line; rw [hN] at this; exact this)
              have N2 : Hid (shI.At ((wr.alloc (.cells #[.int .i64 (t : Nat), .int .i64 tl, .int .i64 (z : Nat)] 35)).alloc (.cells #[.int .i64 (k : Nat)] 3)) (some ⟨wr.heap.size + 1, 0, none⟩) 1 [((k : Nat) : Int)]) := Lib.hid (by
                have := int_one (wr.alloc (.cells #[.int .i64 (t : Nat), .int .i64 tl, .int .i64 (z : Nat)] 35)) (k : Nat) 1
                simp only [World.size_alloc] at this
                exact this)
              have HCL : Hid ((castL LN).length = N) := Lib.hid (by rw [castL_len]; exact hN)
              have hb1s := Nat.le_trans L2.out.hb.1 L2.out.hb.2
              clear hLN hN BB
              go_upto_region 12 with (first
                | (at_builtin; refine wpList_append_n shI rfl _ _ 29 rfl b1 3 j0 _ 8 Try.underlying29 hj0 hy0 hy1 hy2 rfl (.slice sa N sc) N (castL LN) [((k : Nat) : Int)] HCL rfl O2.out (some ⟨wr.heap.size + 1, 0, none⟩) 1 1 rfl (Lib.hid rfl) N2.out (by unfold maxLen; omega) (by omega) hb1s ?_; intro ra5 rc5 w5 own5 grow5 new5; have L5 := Lib.hid (L2.out.growL (ln' := LN ++ [k]) grow5 (by rw [List.length_append, HN.out]; unfold castL at own5 ⊢; rw [List.map_append]; exact own5) new5); have X5 := Lib.hid ((grow5.block wr.heap.size (by simp; omega) (fun e => by have h1 := (own_lt O2.out e.symm); have h2 := (own_lt L.out.line e.symm).2; omega)).trans (heap_step (heap_alloc_new wr (.cells #[.int .i64 (t : Nat), .int .i64 tl, .int .i64 (z : Nat)] 35)) (below_alloc _ _))); clear own5 grow5 new5)
                | fail)
              have c5 := L5.out.l.cell hlt2
              have f5 := L5.out.l.frozen k
              have hBL5 := L5.out.l.lt
              obtain ⟨t0, t1, t2⟩ := trio_at X5.out
              have hX5 := heap_lt X5.out
              have L6 := Lib.hid (L5.out.setL hlt2 ((z : Nat) : Int))
              go_wp2_with fail
              go_roundw
              case rel => exact ⟨k + 1, by omega, by go_num, Lib.hid (by
                rw [HS.out, if_pos HY.out, ← List.append_assoc, HLN.out]
                exact L6.out.congr (fun i _ => by rw [HNX.out i, if_pos HY.out, HZ.out]) (fun _ _ => rfl))⟩
              case measure => simp [intOf]; omega
            · have hne : ((y : Int) == (t : Int)) = false := by simp; omega
              go_wp2_with fail
              go_roundw
              case rel => exact ⟨k + 1, by omega, by go_num, Lib.hid (by
                rw [HS.out, if_neg (by rw [HY.out]; exact h1), List.append_nil]
                exact LA.out.congr (fun i _ => by rw [HNX.out i, if_neg (by rw [HY.out]; exact h1)]) (fun _ _ => rfl))⟩
              case measure => simp [intOf]; omega
          · obtain rfl : k = m := by omega
            obtain ⟨LN, hLN⟩ : ∃ LN, ln ++ cameN T t k = LN := ⟨_, rfl⟩
            have HTL : Hid (TieL T (t + 1) LN (T.atN t)) := Lib.hid (by have := HTA.out; rw [HTM.out, hLN] at this; exact this)
            rw [hLN] at L
            obtain ⟨sa, sc, rfl, _⟩ := own_shape L.out.line
            obtain ⟨N, hN⟩ : ∃ N, LN.length = N := ⟨_, rfl⟩
            have hN64 : N ≤ 64 := by rw [← hN, ← hLN, List.length_append]; exact hlen
            have HN := Lib.hid hN
            have HAL := Lib.hid (Shape.At.own (S := shI) L.out.line (castL_len LN))
            rw [hN] at L ⊢
            clear hLN hN hlt2 hk HTA hlen
            obtain ⟨aq, haq⟩ : ∃ aq, (T.atN t).q = aq := ⟨_, rfl⟩
            have HQ : Hid (∀ j, (LN.filter fun x => decide (T.lev x = j ∧ 0 < (T.stN t).left x)) = aq j) := Lib.hid fun j => by rw [← haq]; exact HTL.out.q j
            have HRU : Hid (PkO aq c 32 = T.runN t) := Lib.hid (by
              unfold PkO
              rw [top_all, ← haq]
              show _ = (downN (T.atN t).q 32).take T.c
              rw [HTC.out])
            have HMEM : Hid (∀ x ∈ LN, x < k ∧ T.come x ≤ t) := Lib.hid fun x hx => by
              have := HTL.out.mem x hx
              rw [HTM.out] at this
              exact ⟨this.1, by omega⟩
            clear haq
            go_wp2_with fail
            obtain ⟨wb, rfl⟩ : ∃ wb : World, wb = wr := ⟨_, rfl⟩
            go_loopw [16, 17] (fun v x wr => ∃ q : Nat, q ≤ 32 ∧ x = .int .i64 (31 - (q : Int)) ∧ Hid (Below wb.heap.size wb wr) ∧ Hid (wr.ownsRow wb.heap.size 3 1 v (PkO aq c q).length (shI.flat (castL (PkO aq c q))))) (fun _ x _ => (intOf x + 1).toNat)
            case atStart => exact ⟨0, by omega, rfl, Lib.hid (Below.refl _ _), Lib.hid (by rw [pkO_zero]; exact World.ownsRow_nil _ _ _ _)⟩
            case round =>
              obtain ⟨q, hq, rfl, BV, OV⟩ := hrel
              by_cases hlt2 : q < 32
              · obtain ⟨lvI, hlv⟩ : ∃ lvI, 31 - (q : Int) = lvI := ⟨_, rfl⟩
                rw [hlv]
                have hge : (0 : Int) ≤ lvI := by omega
                have hle : lvI ≤ 31 := by omega
                have HLV := Lib.hid hlv
                clear hlv
                go_wp2_with fail
                obtain ⟨wc, rfl⟩ : ∃ wc : World, wc = wr := ⟨_, rfl⟩
                go_loopw [16, 59] (fun v x wr => ∃ i : Nat, i ≤ N ∧ x = .int .i64 i ∧ Hid (Below wb.heap.size wb wr) ∧ Hid (wr.ownsRow wb.heap.size 3 1 v (PkI T t aq LN c q i).length (shI.flat (castL (PkI T t aq LN c q i))))) (fun _ x _ => N - (intOf x).toNat)
                case atStart => exact ⟨0, Nat.zero_le _, rfl, BV, Lib.hid (by rw [pkI_zero]; exact OV.out)⟩
                case round =>
                  clear BV OV
                  obtain ⟨i, hi', rfl, BV, OV⟩ := hrel
                  by_cases hlt3 : i < N
                  · obtain ⟨kk, hkk⟩ : ∃ kk, LN[i]? = some kk := ⟨LN[i]'(by rw [HN.out]; exact hlt3), List.getElem?_eq_getElem _⟩
                    obtain ⟨hkm, hkt⟩ := HMEM.out kk (List.mem_of_getElem? hkk)
                    obtain ⟨b, off, hae, hbl, e1⟩ := at_int (HAL.out.step BV.out) (castL_get hkk)
                    subst hae
                    obtain ⟨xk, hxk⟩ : ∃ x, l[kk]? = some x := ⟨l[kk]'(by rw [hm.out]; exact hkm), List.getElem?_eq_getElem _⟩
                    obtain ⟨b2, off2, hae, hb2, -, u1, -⟩ := at_th (HA.out.step (pstep L.out.b BV.out)) hxk
                    subst hae
                    obtain ⟨-, fk, -⟩ := HTT.out kk xk hxk
                    rw [fk] at u1
                    obtain ⟨lk, hlk⟩ : ∃ lk, T.lev kk = lk := ⟨_, rfl⟩
                    rw [hlk] at u1
                    have LW := L.out.l.step BV.out
                    have c0 := LW.cell hkm
                    have hBLw := LW.lt
                    rw [show lfA T t k kk = (((T.stN t).left kk : Nat) : Int) from if_pos (by omega)] at c0
                    obtain ⟨z, hz⟩ : ∃ z, (T.stN t).left kk = z := ⟨_, rfl⟩
                    rw [hz] at c0
                    have HF := Lib.hid (pkI_next (T := T) (t := t) (aq := aq) (c := c) (q := q) hkk)
                    obtain ⟨sv, sw, rfl, _⟩ := own_shape OV.out
                    have hxc := pkI_le T t aq LN c q i
                    obtain ⟨X, hX⟩ : ∃ X, PkI T t aq LN c q i = X := ⟨_, rfl⟩
                    rw [hX] at OV HF hxc ⊢
                    obtain ⟨xn, hxn⟩ : ∃ xn, X.length = xn := ⟨_, rfl⟩
                    have HXN := Lib.hid hxn
                    rw [hxn] at OV hxc ⊢
                    have HLK := Lib.hid hlk
                    have HZK := Lib.hid hz
                    have HKT := Lib.hid hkt
                    have HX := Lib.hid hX
                    clear hkk hxk fk hlk hz hX hxn hkt LW
                    by_cases q1 : lk = 31 - q
                    · obtain rfl : lvI = (lk : Int) := by have := HLV.out; omega
                      by_cases q2 : 0 < z
                      · have p2 : (0 : Int) < (z : Int) := by omega
                        have HPP : T.lev kk = 31 - q ∧ 0 < (T.stN t).left kk := by rw [HLK.out, HZK.out]; exact ⟨q1, q2⟩
                        have HPQ := Lib.hid HPP
                        clear HPP
                        by_cases q3 : xn < c
                        · have p3 : (xn : Int) < (c : Int) := by omega
                          have OA := Lib.hid (own_step OV.out (below_alloc wr (.cells #[.int .i64 (kk : Nat)] 3)))
                          have BA := Lib.hid (pstep BV.out (below_alloc wr (.cells #[.int .i64 (kk : Nat)] 3)))
                          have NA := Lib.hid (int_one wr (kk : Nat) 1)
                          have HXL : Hid ((castL X).length = xn) := Lib.hid (by rw [castL_len]; exact HXN.out)
                          have hwr := BV.out.size
                          clear q1 q2
                          go_wp2_with (first
                            | (at_builtin; refine wpList_append_n shI rfl _ _ 29 rfl wb.heap.size 3 j0 _ 8 Try.underlying29 hj0 hy0 hy1 hy2 rfl (.slice sv xn sw) xn (castL X) [((kk : Nat) : Int)] HXL rfl OA.out (some ⟨wr.heap.size, 0, none⟩) 1 1 rfl (Lib.hid rfl) NA.out (by unfold maxLen; omega) (by omega) (by simp; omega) ?_; intro ra5 rc5 w5 own5 grow5 _; have O5 := Lib.hid own5; have B5 := Lib.hid (BA.out.grown grow5 (by simp; omega) (fun j hj => (own_lt OA.out hj).1)); clear own5 grow5)
                            | fail)
                          go_roundw
                          case rel => exact ⟨i + 1, by omega, by go_num, B5, Lib.hid (by
                            rw [HF.out, if_pos ⟨HPQ.out, by rw [HXN.out]; exact q3⟩, List.length_append, HXN.out]
                            have e := O5.out
                            unfold castL at e ⊢
                            rw [List.map_append]
                            exact e)⟩
                          case measure => simp [intOf]; omega
                        · have p3 : ¬ (xn : Int) < (c : Int) := by omega
                          go_wp2_with fail
                          go_roundw
                          case rel => exact ⟨i + 1, by omega, by go_num, BV, Lib.hid (by
                            rw [HF.out, if_neg (fun h => q3 (by rw [← HXN.out]; exact h.2)), HXN.out]
                            exact OV.out)⟩
                          case measure => simp [intOf]; omega
                      · have p2 : ¬ (0 : Int) < (z : Int) := by omega
                        have HPN : ¬ ((T.lev kk = 31 - q ∧ 0 < (T.stN t).left kk) ∧ X.length < c) := by rw [HLK.out, HZK.out]; omega
                        clear q1 q2
                        go_wp2_with fail
                        go_roundw
                        case rel => exact ⟨i + 1, by omega, by go_num, BV, Lib.hid (by rw [HF.out, if_neg HPN, HXN.out]; exact OV.out)⟩
                        case measure => simp [intOf]; omega
                    · have p1 : ((lk : Int) == lvI) = false := by have := HLV.out; simp; omega
                      have HPN : ¬ ((T.lev kk = 31 - q ∧ 0 < (T.stN t).left kk) ∧ X.length < c) := by rw [HLK.out, HZK.out]; omega
                      clear q1
                      go_wp2_with fail
                      go_roundw
                      case rel => exact ⟨i + 1, by omega, by go_num, BV, Lib.hid (by rw [HF.out, if_neg HPN, HXN.out]; exact OV.out)⟩
                      case measure => simp [intOf]; omega
                  · obtain rfl : i = N := by omega
                    rw [pkI_end HN.out (HQ.out (31 - q))] at OV
                    clear hlt3 hi'
                    go_wp2_with fail
                    go_roundw
                    case rel => exact ⟨q + 1, by omega, by have := HLV.out; congr 1; omega, BV, Lib.hid OV.out⟩
                    case measure => simp [intOf]; omega
              · obtain rfl : q = 32 := by omega
                rw [HRU.out] at OV
                clear hlt2 hq
                have hge : ¬ (0 : Int) ≤ 31 - ((32 : Nat) : Int) := by omega
                obtain ⟨R, hR⟩ : ∃ R, T.runN t = R := ⟨_, rfl⟩
                rw [hR] at OV HRU
                obtain ⟨sv, sw, rfl, _⟩ := own_shape OV.out
                obtain ⟨rl, hrl⟩ : ∃ rl, R.length = rl := ⟨_, rfl⟩
                have hrl8 : rl ≤ 8 := by
                  rw [← hrl, ← HRU.out]
                  unfold PkO
                  rw [List.length_take]
                  omega
                have HRL := Lib.hid hrl
                rw [hrl] at OV ⊢
                have HRR := Lib.hid hR
                have HCR : Hid ((castL R).length = rl) := Lib.hid (by rw [castL_len]; exact hrl)
                have HAR := Lib.hid (Shape.At.own (S := shI) OV.out HCR.out)
                have LV := Lib.hid (L.out.step BV.out)
                have hwb := BV.out.size
                have HMV := Lib.hid (fun (j x : Nat) (h : R[j]? = some x) => run_next HLEV.out (t := t) (j := j) (k := x) (by rw [hR]; exact h))
                have hND := run_nod HLEV.out t
                rw [hR] at hND
                have HND := Lib.hid hND
                clear hrl hR hND
                go_wp2_with (first
                  | (go_at_call 21; (with_reducible refine (clone_I (castL R) sv rl sw _ HCR HAR (by omega)).mono ?_); rintro e wc ⟨ra, rc, rfl, hO, hb⟩; have OC := Lib.hid hO; have BC := Lib.hid hb; clear hO hb)
                  | fail)
                have LC := Lib.hid (LV.out.step BC.out)
                have OW := Lib.hid (own_step OV.out BC.out)
                have HAC := Lib.hid (Shape.At.own (S := shI) OC.out HCR.out)
                have hwc := BC.out.size
                have HLC := Lib.hid (fun (g : Nat) (e : (Value.slice sa N sc).ownBlock = some g) => (own_lt L.out.line e).2)
                have HRC := Lib.hid (fun (b off : Nat) (e : ra = some ⟨b, off, none⟩) => (by
                  obtain ⟨_, _, _, _, _, _, hsome⟩ := own_shape OC.out
                  obtain ⟨g, e', h1, h2⟩ : ∃ g, (⟨b, off, none⟩ : Addr) = ⟨g, 0, none⟩ ∧ wr.heap.size ≤ g ∧ g < wc.heap.size := by
                    rename_i hv _ _ _
                    cases hv
                    exact hsome _ e
                  cases e'
                  exact ⟨h1, h2⟩ : wr.heap.size ≤ b ∧ b < wc.heap.size))
                have hb1 := L.out.hb
                have hbl := L.out.bl
                have hbr := L.out.br
                obtain ⟨mv, hmv⟩ : ∃ mv, T.movN (T.atN t) R = mv := ⟨_, rfl⟩
                have HMM := Lib.hid hmv
                clear hmv
                go_loopw [9, 91] (fun v i wr => ∃ j : Nat, j ≤ rl ∧ i = .int .i64 j ∧ Hid (LpV w b1 wr BL BR k (lfB T t j) (rnB T t j) v (mvL mv (R.take j) LN) u12 t (rowN T) ob) ∧ Hid (∀ b, b < wc.heap.size → ¬ b = BL → ¬ b = BR → wr.heap[b]? = wc.heap[b]?) ∧ Hid (wc.heap.size ≤ wr.heap.size) ∧ Hid (∀ g, v.ownBlock = some g → g < wb.heap.size ∨ wc.heap.size ≤ g)) (fun _ i _ => rl - (intOf i).toNat)
                case atStart => exact ⟨0, Nat.zero_le _, rfl, Lib.hid (by rw [List.take_zero, mvL_nil]; exact LC.out.congr (fun i hi => by rw [lfB_zero T t i (by rw [HTM.out]; exact hi), HTM.out]) (fun i _ => rnB_zero T t i)), Lib.hid (fun _ _ _ _ => rfl), Lib.hid (Nat.le_refl _), Lib.hid (fun g e => Or.inl (HLC.out g e))⟩
                case round =>
                  obtain ⟨j, hj, rfl, L5, KC, SZ, LA⟩ := hrel
                  by_cases hlt2 : j < rl
                  · obtain ⟨kk, hkk⟩ : ∃ kk, R[j]? = some kk := ⟨R[j]'(by rw [HRL.out]; exact hlt2), List.getElem?_eq_getElem _⟩
                    obtain ⟨hni, hkt, hl0, hkm, hnl, hnr, hvl, hvr⟩ := HMV.out j kk hkk
                    rw [HTM.out] at hkm
                    rw [HRR.out] at hni
                    have hws := SZ.out
                    obtain ⟨b, off, hae, hbl2, e1⟩ := at_int (at_kept (w' := wr) HAC.out fun b off e hb => ⟨KC.out b hb (by have := HRC.out b off e; omega) (by have := HRC.out b off e; omega), Nat.lt_of_lt_of_le hb hws⟩) (castL_get hkk)
                    subst hae
                    have hsm := (inv_st HLEV.out t).sum kk
                    have hwk : T.work kk ≤ 10000 := by
                      obtain ⟨x, hx⟩ : ∃ x, l[kk]? = some x := ⟨l[kk]'(by rw [hm.out]; exact hkm), List.getElem?_eq_getElem _⟩
                      exact (HTT.out kk x hx).2.2.2.2.2
                    have HMK := Lib.hid (mv_at HMM.out (List.mem_of_getElem? hkk))
                    obtain ⟨z, hz⟩ : ∃ z, (T.stN t).left kk = z := ⟨_, rfl⟩
                    obtain ⟨y, hy⟩ : ∃ y, (T.stN t).ran kk = y := ⟨_, rfl⟩
                    rw [hz] at hl0 hsm hvl
                    rw [hy] at hsm hvr HMK
                    rw [HTS.out] at HMK
                    obtain ⟨z1, hz1⟩ : ∃ z1, z - 1 = z1 := ⟨_, rfl⟩
                    obtain ⟨y1, hy1⟩ : ∃ y1, y + 1 = y1 := ⟨_, rfl⟩
                    rw [hy1] at HMK
                    have hzz : (z : Int) - 1 = (z1 : Int) := by omega
                    have hyy : (y : Int) + 1 = (y1 : Int) := by omega
                    have hz8 : z ≤ 10000 := by omega
                    have hy8 : y1 ≤ 10001 := by omega
                    have c6 := L5.out.l.cell hkm
                    have f6 := L5.out.l.frozen kk
                    have hB6 := L5.out.l.lt
                    rw [hvl] at c6
                    have L6 := L5.out.setL hkm ((z1 : Nat) : Int)
                    have c7 := L6.r.cell hkm
                    have f7 := L6.r.frozen kk
                    rw [hvr] at c7
                    have L7 := L6.setR hkm ((y1 : Nat) : Int)
                    have hR6 := L5.out.r.lt
                    have HST := Lib.hid (mvL_step mv LN hni)
                    have HTK : Hid (R.take (j + 1) = R.take j ++ [kk]) := Lib.hid (by rw [List.take_add_one, hkk]; rfl)
                    have L8 := Lib.hid (L7.congr (lf' := lfB T t (j + 1)) (rn' := rnB T t (j + 1)) (fun x _ => by rw [hnl x, hvl, hzz]) (fun x _ => by rw [hnr x, hvr, hyy]))
                    have HKK := Lib.hid hkk
                    clear L6 L7 hkk hnl hnr hvl hvr hni hkt hz hy hsm hwk hz1 hy1
                    have hqs : (mvL mv (R.take j) LN).length ≤ 72 := by
                      have h1 := mvL_len mv (R.take j) LN
                      have h2 : (R.take j).length ≤ j := List.length_take_le _ _
                      have := HN.out
                      omega
                    obtain ⟨LQ, hLQ⟩ : ∃ LQ, mvL mv (R.take j) LN = LQ := ⟨_, rfl⟩
                    rw [hLQ] at L8 HST hqs
                    obtain ⟨w7, hw7⟩ : ∃ w7, (wr.setCell ⟨BL, kk, none⟩ (.int .i64 (z1 : Nat))).setCell ⟨BR, kk, none⟩ (.int .i64 (y1 : Nat)) = w7 := ⟨_, rfl⟩
                    have e7 : w7.heap.size = wr.heap.size := by rw [← hw7]; simp
                    rw [hw7] at L8
                    have C7 : ∀ b, b < wc.heap.size → ¬ b = BL → ¬ b = BR → w7.heap[b]? = wc.heap[b]? := fun b hb h1 h2 => by
                      rw [← hw7]
                      exact ((Below.heap_setCell _ _ _ b h2).trans (Below.heap_setCell _ _ _ b h1)).trans (KC.out b hb h1 h2)
                    have K9 := heap_alloc_new w7 (.cells #[.int .i64 (kk : Nat)] 3)
                    have S9 : wr.heap.size < (w7.alloc (.cells #[.int .i64 (kk : Nat)] 3)).heap.size := by simp; omega
                    have B9 := below_alloc w7 (.cells #[.int .i64 (kk : Nat)] 3)
                    have L9 := Lib.hid (L8.out.step B9)
                    rw [e7] at K9
                    have HW7 := Lib.hid hw7
                    obtain ⟨w9, hw9⟩ : ∃ w9, w7.alloc (.cells #[.int .i64 (kk : Nat)] 3) = w9 := ⟨_, rfl⟩
                    rw [hw9] at K9 S9 B9 L9
                    have HW9 := Lib.hid hw9
                    have C9 := Lib.hid (fun b hb h1 h2 => (B9.block b (by omega)).trans (C7 b hb h1 h2) : ∀ b, b < wc.heap.size → ¬ b = BL → ¬ b = BR → w9.heap[b]? = wc.heap[b]?)
                    have X9 := Lib.hid K9
                    obtain ⟨qn, hqn⟩ : ∃ qn, LQ.length = qn := ⟨_, rfl⟩
                    obtain ⟨la, lc, rfl, _⟩ := own_shape L9.out.line
                    rw [hqn] at L9 LA hqs ⊢
                    have HQN := Lib.hid hqn
                    clear K9 B9 C7 hw7 hw9 L8 L5 hqn hLQ
                    by_cases hmod : y1 % sl = 0
                    · have hrem : (y1 : Int) % (sl : Int) = 0 := by rw [← Int.natCast_emod, hmod]; rfl
                      have HMT : Hid (mvL mv (R.take (j + 1)) LN = (LQ.filter fun x => decide (¬ x = kk)) ++ [kk]) := Lib.hid (by rw [HTK.out, HST.out, HMK.out, if_pos (decide_eq_true hmod)])
                      go_upto_region 30 with fail
                      rw [HW7.out, HW9.out]
                      obtain ⟨K, hK⟩ : ∃ K, wr.heap.size = K := ⟨_, rfl⟩
                      rw [hK] at S9 X9 hws ⊢
                      have OX : Hid (w9.ownsRow b1 3 1 (.slice la qn lc) qn (shI.flat (castL LQ))) := Lib.hid (by have := L9.out.line; rw [HQN.out] at this; exact this)
                      have HXL : Hid ((castL LQ).length = qn) := Lib.hid (by rw [castL_len]; exact HQN.out)
                      have HAX := Lib.hid (Shape.At.own (S := shI) OX.out HXL.out)
                      have CLN := Lib.hid (fun (wx : World) (h : Bw w9 K (kk : Nat) wx) => (clone_I (castL LQ) la qn lc wx HXL (Lib.hid (HAX.out.step h.b)) (by omega)).mono fun e w' q => (by
                        obtain ⟨ra, rc, rfl, hO, hb⟩ := q
                        exact ⟨ra, rc, rfl, h.step hb, Lib.hid (own_base hO h.b.size), Lib.hid hb, Lib.hid (fun g e => (own_lt hO e).1)⟩ : ∃ ra rc, e = .returned (.slice ra qn rc) ∧ Bw w9 K (kk : Nat) w' ∧ Hid (w'.ownsRow w9.heap.size 3 1 (.slice ra qn rc) qn (shI.flat (castL LQ))) ∧ Hid (Below wx.heap.size wx w') ∧ Hid (∀ g, (Value.slice ra qn rc).ownBlock = some g → wx.heap.size ≤ g)))
                      obtain ⟨XF, hXF⟩ : ∃ XF, ((castL LQ).filter fun x => decide (¬ x = ((kk : Nat) : Int))) = XF := ⟨_, rfl⟩
                      obtain ⟨xn, hxn⟩ : ∃ xn, XF.length = xn := ⟨_, rfl⟩
                      have hxq : xn ≤ qn := by rw [← hxn, ← hXF, ← HXL.out]; exact List.length_filter_le _ _
                      have HXN := Lib.hid hxn
                      have HXF := Lib.hid (congrArg (· ++ [((kk : Nat) : Int)]) hXF)
                      have DF := Lib.hid (fun (ra : Option Addr) (rc : Nat) (wx : World) (h : Bw w9 K (kk : Nat) wx) (ho : Hid (wx.ownsRow w9.heap.size 3 1 (.slice ra qn rc) qn (shI.flat (castL LQ)))) => (delk_own (kk : Nat) K xn wx ho HXL (by omega) (Lib.hid (heap_lt h.o)) (Lib.hid (one_at h.o)) (Lib.hid h.l) (Lib.hid (by rw [hXF]; exact hxn))).mono fun e w' q => (by
                        obtain ⟨rfl, hO, hg⟩ := q
                        rw [hXF] at hO
                        exact ⟨rfl, h.grown ho.out (Nat.le_refl _) hg, Lib.hid hO, Lib.hid hg⟩ : e = .returned (.slice ra xn rc) ∧ Bw w9 K (kk : Nat) w' ∧ Hid (w'.ownsRow w9.heap.size 3 1 (.slice ra xn rc) xn (shI.flat XF)) ∧ Hid (wx.grownBy w' (Value.slice ra qn rc).ownBlock)))
                      have Y0 : Bw w9 K (kk : Nat) w9 := ⟨Below.refl _ _, X9.out, S9⟩
                      have XD := Y0.drew
                      have XA := Y0.alloc (.cells #[.int .i64 (kk : Nat)] 3)
                      have XB := (Y0.alloc (.cells #[.int .i64 (kk : Nat)] 3)).drew
                      have FB0 := Lib.hid (int_one w9 (kk : Nat) 1)
                      have h1L : Hid ([((kk : Nat) : Int)].length = 1) := Lib.hid rfl
                      have hS0 : w9.heap.size ≤ w9.heap.size := Nat.le_refl _
                      have hx72 : xn ≤ 72 := by omega
                      clear hXF hxn hK hqs hxq
                      have HL7 : Hid ((mvL mv (R.take (j + 1)) LN).length = xn + 1) := Lib.hid (by rw [← castL_len, HMT.out, castL_rem, HXF.out, List.length_append, HXN.out]; rfl)
                      have NX := Lib.hid (fun (v : Value) (wy : World) (hB : Below w9.heap.size w9 wy) (hO : wy.ownsRow w9.heap.size 3 1 v (xn + 1) (shI.flat (XF ++ [((kk : Nat) : Int)]))) => (by
                        rw [← HXF.out, ← castL_rem, ← HMT.out] at hO
                        exact ⟨Lib.hid (L9.out.newL hB (by rw [HL7.out]; exact hO)), Lib.hid (fun b hb h1 h2 => (hB.block b (by omega)).trans (C9.out b hb h1 h2)), Lib.hid (by have := hB.size; omega), Lib.hid (fun g e => Or.inr (by have := (own_lt hO e).1; omega))⟩ : Hid (LpV w b1 wy BL BR k (lfB T t (j + 1)) (rnB T t (j + 1)) v (mvL mv (R.take (j + 1)) LN) u12 t (rowN T) ob) ∧ Hid (∀ b, b < wc.heap.size → ¬ b = BL → ¬ b = BR → wy.heap[b]? = wc.heap[b]?) ∧ Hid (wc.heap.size ≤ wy.heap.size) ∧ Hid (∀ g, v.ownBlock = some g → g < wb.heap.size ∨ wc.heap.size ≤ g)))
                      go_region_held3 (fun w' => Bw w9 K (kk : Nat) w' ∧ w'.cell? ⟨K, 0, none⟩ = some (.int .i64 (kk : Nat)))
                        (first | (refine Bw.all ?_; with_reducible assumption) | (refine Bw.all (Bw.alloc ?_ _); with_reducible assumption) | (refine Bw.all (Bw.drew (Bw.alloc ?_ _)); with_reducible assumption) | (refine Bw.all (Bw.alloc (Bw.drew ?_) _); with_reducible assumption))
                        (first
                        | (go_at_call 21; (with_reducible refine (CLN.out _ XD).mono ?_); rintro e w4 ⟨ra, rc, rfl, TT, OA, BA, GA⟩; have hz4 := TT.b.size; have TA := TT.alloc (.cells #[.int .i64 (kk : Nat)] 3); have OB := Lib.hid (own_step OA.out (below_alloc w4 (.cells #[.int .i64 (kk : Nat)] 3))); have FB2 := Lib.hid (int_one w4 (kk : Nat) 1))
                        | (go_at_call 21; (with_reducible refine (CLN.out _ XB).mono ?_); rintro e w4 ⟨ra, rc, rfl, TT, OC, BA, GA⟩; have hz4 := TT.b.size; have FB3 := Lib.hid ((FB0.out.step (Below.refl _ _).drew).step BA.out))
                        | (go_at_call 20; (with_reducible refine (DF.out ra rc w4 TT OA).mono ?_); rintro e w5 ⟨rfl, TU, OD, GD⟩; have OE := Lib.hid (own_step OD.out (below_alloc w5 (.cells #[.int .i64 (kk : Nat)] 3))); have TV := TU.alloc (.cells #[.int .i64 (kk : Nat)] 3); have FB4 := Lib.hid (int_one w5 (kk : Nat) 1); have hz5 : w9.heap.size ≤ (w5.alloc (.cells #[.int .i64 (kk : Nat)] 3)).heap.size := Nat.le_trans TU.b.size (below_alloc w5 (.cells #[.int .i64 (kk : Nat)] 3)).size)
                        | (go_at_call 20; (with_reducible refine (DF.out ra rc (w4.alloc (.cells #[.int .i64 (kk : Nat)] 3)) TA OB).mono ?_); rintro e w5 ⟨rfl, TU, OF, GD⟩; have FB5 := Lib.hid (at_kept FB2.out fun b' off' e hb => ⟨GD.out.block b' hb (fun q => by cases e; have := (own_lt OA.out q.symm).2; omega), Nat.lt_of_lt_of_le hb GD.out.size⟩); have hz5 := TU.b.size)
                        | (go_at_call 20; (with_reducible refine (DF.out ra rc w4 TT OC).mono ?_); rintro e w5 ⟨rfl, TU, OG, GD⟩; have FB6 := Lib.hid (at_kept FB3.out fun b' off' e hb => ⟨GD.out.block b' hb (fun q => by cases e; have := GA.out _ q.symm; simp at this; omega), Nat.lt_of_lt_of_le hb GD.out.size⟩); have hz5 := TU.b.size)
                        | (refine step_append_n shI rfl _ _ 29 rfl w9.heap.size 3 j0 _ 8 Try.underlying29 hj0 hy0 hy1 hy2 rfl (.slice ra xn rc) xn XF [((kk : Nat) : Int)] HXN rfl OE.out (some ⟨w5.heap.size, 0, none⟩) 1 1 rfl h1L FB4.out (by unfold maxLen; omega) (by omega) hz5 ?_; intro ra5 rc5 w6 own5 grow5 _; have TT6 := TV.grown OE.out hS0 grow5; have O6 := Lib.hid own5; clear own5 grow5)
                        | (refine step_append_n shI rfl _ _ 29 rfl w9.heap.size 3 j0 _ 8 Try.underlying29 hj0 hy0 hy1 hy2 rfl (.slice ra xn rc) xn XF [((kk : Nat) : Int)] HXN rfl OF.out (some ⟨w4.heap.size, 0, none⟩) 1 1 rfl h1L FB5.out (by unfold maxLen; omega) (by omega) hz5 ?_; intro ra5 rc5 w6 own5 grow5 _; have TT6 := TU.grown OF.out hS0 grow5; have O6 := Lib.hid own5; clear own5 grow5)
                        | (refine step_append_n shI rfl _ _ 29 rfl w9.heap.size 3 j0 _ 8 Try.underlying29 hj0 hy0 hy1 hy2 rfl (.slice ra xn rc) xn XF [((kk : Nat) : Int)] HXN rfl OG.out (some ⟨w9.heap.size, 0, none⟩) 1 1 rfl h1L FB6.out (by unfold maxLen; omega) (by omega) hz5 ?_; intro ra5 rc5 w6 own5 grow5 _; have TT6 := TU.grown OG.out hS0 grow5; have O6 := Lib.hid own5; clear own5 grow5)
                        | fail)
                      all_goals go_wp2_with fail
                      all_goals go_roundw
                      all_goals first | exact ⟨j + 1, by omega, by go_num, NX.out _ _ TT6.b O6.out⟩ | (simp [intOf]; omega)
                    · have hrem : ¬ (y1 : Int) % (sl : Int) = 0 := by rw [← Int.natCast_emod]; omega
                      have HMT : Hid (mvL mv (R.take (j + 1)) LN = LQ) := Lib.hid (by rw [HTK.out, HST.out, HMK.out, if_neg (by simpa using hmod)])
                      go_wp2_with fail
                      go_roundw
                      case rel =>
                        rw [HW7.out, HW9.out]
                        exact ⟨j + 1, by omega, by go_num, Lib.hid (by rw [HMT.out]; exact L9.out), C9, Lib.hid (by omega), LA⟩
                      case measure => simp [intOf]; omega
                  · obtain rfl : j = rl := by omega
                    have hRj : R.take j = R := by rw [← HRL.out, List.take_length]
                    rw [hRj] at L5
                    have L6 := L5.out.congr (lf' := lfA T (t + 1) 0) (rn' := fun k => (((T.stN (t + 1)).ran k : Nat) : Int)) (fun i _ => by rw [← lfB_end T t i, HRR.out, HRL.out]) (fun i _ => by show _ = rnB T t j i; rw [← rnB_end T t i, HRR.out, HRL.out])
                    have TF : Hid (TieL T (t + 1) (mvL mv R LN) (T.stN (t + 1))) := Lib.hid (by
                      have := HTL.out.did (at_at HLEV.out t) HLEV.out
                      rw [show T.pickN (T.atN t) = R from HRR.out, HMM.out] at this
                      rw [T.st_succ t, HRR.out]
                      exact this)
                    obtain ⟨LM, hLM⟩ : ∃ LM, mvL mv R LN = LM := ⟨_, rfl⟩
                    rw [hLM] at L6 TF
                    have hws := SZ.out
                    have OS : Hid (wr.ownsRow wb.heap.size 3 1 (.slice sv j sw) j (shI.flat (castL R))) := Lib.hid (own_heap OW.out fun g o hg ho => (KC.out g (heap_lt ho) (by have := (own_lt OW.out hg).1; omega) (by have := (own_lt OW.out hg).1; omega)).trans ho)
                    have HSB := Lib.hid (fun (g : Nat) (e : (Value.slice sv j sw).ownBlock = some g) => own_lt OW.out e)
                    have HOV : Hid (∀ g, u12.ownBlock = some g → g < wb.heap.size) := Lib.hid fun g e => by
                      obtain ⟨vs, h1, _, _⟩ := L.out.out
                      exact (own_lt h1 e).2
                    have HRT : Hid (rowN T t = sortI (castL R)) := Lib.hid (by unfold rowN castL; rw [HRR.out])
                    have hwbw : w.heap.size ≤ wb.heap.size := by omega
                    have L6h := Lib.hid L6
                    clear L5 L6 hLM hRj HMV HND HTL HAC HAR hlt2 hj L LC LV OW OV BV HQ HRU HMEM HAL
                    have HKS : Hid (∀ b, (b = BL ∨ b = BR ∨ u9.ownBlock = some b ∨ u12.ownBlock = some b ∨ (b1 ≤ b ∧ b < ob ∧ u9.ownBlock ≠ some b)) → ¬ some b = (Value.slice sv j sw).ownBlock) := Lib.hid fun b hw e => by
                      have h1 := HSB.out b e.symm
                      rcases hw with rfl | rfl | h | h | ⟨h, h2, _⟩
                      · omega
                      · omega
                      · have := LA.out b h
                        omega
                      · have := HOV.out b h
                        omega
                      · omega
                    have hj8 : j ≤ 8 := hrl8
                    go_upto_region 33 with (first
                      | (go_at_call 28; (with_reducible refine (sortI_row _ OS HCR (by omega)).mono ?_); rintro e w2 ⟨rfl, ho2, hg2⟩; have L7 := Lib.hid (L6h.out.same (L6h.out.b.grown hg2 L6h.out.b.size (fun g e => Nat.le_trans hwbw (HSB.out g e).1)) hg2.size (fun b hb hw => hg2.block b hb (HKS.out b hw))); have O2 := Lib.hid ho2; have hs2 := hg2.size; clear ho2 hg2)
                      | fail)
                    have BA2 := below_alloc w2 (.cells #[.slice sv j sw] 29)
                    have L8 := Lib.hid (L7.out.step BA2)
                    have O3 := Lib.hid (own_step O2.out BA2)
                    have NS : Hid (shS.At (w2.alloc (.cells #[.slice sv j sw] 29)) (some ⟨w2.heap.size, 0, none⟩) 1 [(sv, j, sw)]) := Lib.hid (Shape.At.lit (S := shS) [(sv, j, sw)] (heap_alloc_new w2 _))
                    obtain ⟨vs, hv1, hv2, hv3⟩ := L8.out.out
                    obtain ⟨oa, oc, rfl, _⟩ := own_shape hv1
                    have HV1 := Lib.hid hv1
                    have HV2 := Lib.hid hv2
                    have HV3 := Lib.hid hv3
                    have HSL : Hid ((rowN T t).length = j) := Lib.hid (by rw [HRT.out, sortI_len]; exact HCR.out)
                    have HR3 : Hid (shI.At (w2.alloc (.cells #[.slice sv j sw] 29)) sv sw (rowN T t)) := Lib.hid (by
                      rw [HRT.out]
                      exact Shape.At.own (S := shI) O3.out (by rw [sortI_len]; exact HCR.out))
                    have hs3 : wr.heap.size ≤ (w2.alloc (.cells #[.slice sv j sw] 29)).heap.size := by simp; omega
                    have hb3 : b1 ≤ (w2.alloc (.cells #[.slice sv j sw] 29)).heap.size := by omega
                    have HRA : Hid (∀ b off, sv = some ⟨b, off, none⟩ → b1 ≤ b ∧ b < (w2.alloc (.cells #[.slice sv j sw] 29)).heap.size ∧ u9.ownBlock ≠ some b ∧ (Value.slice oa t oc).ownBlock ≠ some b) := Lib.hid fun b off e => by
                      obtain ⟨_, _, hv, _, _, _, hsome⟩ := own_shape O3.out
                      cases hv
                      obtain ⟨g, e', _, _⟩ := hsome _ e
                      cases e'
                      subst e
                      have h1 := HSB.out b rfl
                      exact ⟨by omega, by omega, fun q => by have := LA.out b q; omega, fun q => by have := HOV.out b q; omega⟩
                    clear hv1 hv2 hv3 BA2 L7 O2
                    go_wp2_with (first
                      | (at_builtin; refine wpList_append_n shS rfl _ _ 23 rfl b1 29 k0 _ 24 Try.underlying23 hk0 hx0 hx1 hx2 rfl (.slice oa t oc) t vs [(sv, j, sw)] HV2 rfl HV1.out (some ⟨w2.heap.size, 0, none⟩) 1 1 rfl (Lib.hid rfl) NS.out (by unfold maxLen; omega) (by omega) hb3 ?_; intro ra5 rc5 w5 own5 grow5 new5; have L9 := Lib.hid (L8.out.more grow5 HV1.out HV2.out HV3.out own5 new5 HSL.out HR3.out HRA.out); clear own5 grow5 new5)
                      | fail)
                    go_roundw
                    case rel => exact ⟨t + 1, LM, w5.heap.size, by omega, by go_num, L9, TF⟩
                    case measure => simp [intOf]; omega
      · obtain rfl : t = n := by omega
        obtain ⟨ra, rc, rfl, hR⟩ := L.out.runs
        have HR := Lib.hid hR
        have HB := Lib.hid L.out.b
        clear hlt ht L HT hR
        go_wp2_with fail
        go_ret
        exact ⟨ra, rc, rfl, HR.out, HB.out⟩
end Go.Proofs.Ytningajaimbncaa
