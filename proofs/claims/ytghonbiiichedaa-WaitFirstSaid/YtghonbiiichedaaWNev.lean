/- WaitNever: no waking is missed. -/
import Derived.Test.YtghonbiiichedaaWtK
import Derived.Test.YtghonbiiichedaaWtO
import Derived.Test.YtghonbiiichedaaFind
namespace Go.Proofs.Ytghonbiiichedaa
open Go.RowKit

theorem mem_fn {l : List Int} {n : Nat} (hl : l.length = n) (v : Int) : v ∈ l ↔ ∃ i, i < n ∧ fnL l i = v := by
  subst hl
  rw [List.mem_iff_getElem?]
  constructor
  · rintro ⟨i, hi⟩
    have hlt := (List.getElem?_eq_some_iff.1 hi).1
    rw [fnL_get hlt] at hi
    exact ⟨i, hlt, Option.some.inj hi⟩
  · rintro ⟨i, hlt, rfl⟩
    exact ⟨i, fnL_get hlt⟩
theorem contains_Q {ad : Option Addr} {cap n : Nat} {l : List Int} (v : Int) (w : World) (HA : Hid (shI.At w ad cap l)) (hl : Hid (l.length = n)) (hn : n ≤ 9223372036854775807) (q : Bool) (hq : Hid (q = decide (v ∈ l))) :
    Calls Try.prog 13 #[.slice ad n cap, .int .i64 v] w fun e w' => e = .returned (.bool q) ∧ w = w' :=
  contains_N v w (Lib.hid (IntAt.of HA.out hl.out)) hn q (Lib.hid (by rw [hq.out, decide_eq_true_eq]; exact mem_fn hl.out v))
theorem look_got {s : StV} {t : Int} (h : errV s ⟨2, t⟩ = 0) : (stepV s ⟨2, t⟩).got = s.got ++ [t] := by
  rw [errW_step h, doV_2]
section
variable {ad : Option Addr} {cap n : Nat} {ops : List WvT}
set_option maxHeartbeats 4000000 in
set_option maxRecDepth 100000 in
theorem nev_walk (w : World) (HA : Hid (shV.At w ad cap ops)) (hm : Hid (ops.length = n)) (hn : n ≤ 8796093021952) :
    Calls Try.prog 4 #[.slice ad n cap] w fun e w' => e = .returned (.bool true) ∧ Below w.heap.size w w' := by
  obtain ⟨i0, hi, hz0, hz1, hz2⟩ := info_parts' info_wv
  obtain ⟨s, hs⟩ : ∃ s, runV newV ops = s := ⟨_, rfl⟩
  obtain ⟨es, hes⟩ : ∃ es, errsV newV ops = es := ⟨_, rfl⟩
  have hgood : GoodV s := by rw [← hs]; exact good_runV good_newV
  obtain ⟨gn, hgn⟩ : ∃ gn, s.got.length = gn := ⟨_, rfl⟩
  obtain ⟨sn, hsn⟩ : ∃ sn, (slpL s.line).length = sn := ⟨_, rfl⟩
  obtain ⟨th, hth⟩ : ∃ th, s.things = th := ⟨_, rfl⟩
  have HP1 := Lib.hid (fun X (HX : Hid (shV.At X ad cap ops)) => play_res hm (by omega) (Lib.hid hes) (Lib.hid hs) (Lib.hid hgn) (Lib.hid hsn) (Lib.hid hth) ad cap X HX)
  have hgb : gn ≤ n := by rw [← hgn, ← hs, ← hm.out]; exact got_newV ops
  have hsb : sn ≤ 64 := by
    have h1 := slp_le s.line
    have h2 := line_len hgood
    omega
  have hel : es.length = n := by rw [← hes, errsV_len, hm.out]
  have HEL := Lib.hid hel
  unfold PlayN at HP1
  by_cases h0 : th = 0
  · subst h0
    clear hs hes hgn hsn hth hel
    go_enter Try.func4, Try.ntmps4
    go_wp2_with (first
      | (go_at_call 12; (with_reducible refine (alive15_N _).mono ?_); rintro e w1 ⟨rfl, hb⟩; have B1 := Lib.hid hb; have A1 := Lib.hid (HA.out.step hb); clear hb)
      | (go_at_call 8; (with_reducible refine (HP1.out _ A1).mono ?_); rintro e w2 ⟨E, ga, gc, la, lc, rfl, _, _, _, hb⟩; have B2 := Lib.hid (pstep B1.out hb); clear hb)
      | fail)
    go_ret
    exact ⟨rfl, B2.out⟩
  have hth1 : ¬ (th : Int) = 0 := by omega
  have hth2 : ((th : Int) == 0) = false := by simpa using h0
  by_cases hs0 : sn = 0
  · subst hs0
    clear hs hes hgn hsn hth hel
    go_enter Try.func4, Try.ntmps4
    go_wp2_with (first
      | (go_at_call 12; (with_reducible refine (alive15_N _).mono ?_); rintro e w1 ⟨rfl, hb⟩; have B1 := Lib.hid hb; have A1 := Lib.hid (HA.out.step hb); clear hb)
      | (go_at_call 8; (with_reducible refine (HP1.out _ A1).mono ?_); rintro e w2 ⟨E, ga, gc, la, lc, rfl, _, _, _, hb⟩; have B2 := Lib.hid (pstep B1.out hb); clear hb)
      | fail)
    go_ret
    exact ⟨rfl, B2.out⟩
  have hsn1 : ¬ (sn : Int) = 0 := by omega
  have hsn2 : ((sn : Int) == 0) = false := by simpa using hs0
  obtain ⟨T, hT64, hTn, hTe, hTg⟩ := never_V hgood (show 0 < s.things by omega) (show ¬ slpV s = [] from fun h => hs0 (by rw [← hsn]; show (slpV s).length = 0; rw [h]; rfl))
  have HTN : Hid (¬ (T : Int) ∈ slpL s.line) := Lib.hid hTn
  have HTE := Lib.hid hTe
  have HGN := Lib.hid hgn
  have HSN := Lib.hid hsn
  have HS := Lib.hid hs
  have HES := Lib.hid hes
  have hsb9 : sn ≤ 9223372036854775807 := by omega
  have hnw : IntKind.i64.wrap ((n : Int) + 1) = (n : Int) + 1 := by rw [IntKind.wrap_i64]; omega
  have hgw : IntKind.i64.wrap ((gn : Int) + 1 - 1) = (gn : Int) := by rw [IntKind.wrap_i64]; omega
  have hnd : decide (n < n + 1) = true := decide_eq_true (by omega)
  have hnd2 : (n : Int) < (n : Int) + 1 := by omega
  have hn0 : (0 : Int) ≤ (n : Int) := by omega
  have hg0 : (0 : Int) ≤ (gn : Int) := by omega
  have hgd : decide (gn < gn + 1) = true := decide_eq_true (by omega)
  have hgd2 : (gn : Int) < (gn : Int) + 1 := by omega
  have hgd3 : (0 : Int) < (gn : Int) + 1 := by omega
  clear hs hes hgn hsn hth hel hTn hTe hTg h0 hs0 hgood
  go_enter Try.func4, Try.ntmps4
  go_upto_region 7 with (first
    | (go_at_call 12; (with_reducible refine (alive15_N _).mono ?_); rintro e w1 ⟨rfl, hb⟩; have B1 := Lib.hid hb; have A1 := Lib.hid (HA.out.step hb); clear hb)
    | (go_at_call 8; (with_reducible refine (HP1.out _ A1).mono ?_); rintro e w2 ⟨E, ga, gc, la, lc, rfl, _, _, hL, hb⟩; have B2 := Lib.hid (pstep B1.out hb); have A2 := Lib.hid (A1.out.step hb); have L2 := Lib.hid hL; clear hb hL)
    | fail)
  clear HP1 A1 B1 hth1 hth2 hsn1 hsn2
  go_loopw [28] (fun i wr => ∃ k : Nat, k ≤ T ∧ i = .int .i64 k ∧ Hid (Below w2.heap.size w2 wr)) (fun i _ => 64 - (intOf i).toNat)
  case atStart => exact ⟨0, Nat.zero_le _, rfl, Lib.hid (Below.refl _ _)⟩
  case round =>
    obtain ⟨k, hk, rfl, HB⟩ := hrel
    have hk64 : k < 64 := by omega
    have hk64i : (k : Int) < 64 := by omega
    have hk64d : decide ((k : Int) < 64) = true := decide_eq_true hk64i
    have AR := Lib.hid (A2.out.step HB.out)
    have LR := Lib.hid (L2.out.step HB.out)
    have hkw : IntKind.i64.wrap ((k : Int) + 1) = (k : Int) + 1 := by rw [IntKind.wrap_i64]; omega
    by_cases hc : (k : Int) ∈ slpL s.line
    · have HC : Hid (true = decide ((k : Int) ∈ slpL s.line)) := Lib.hid (decide_eq_true hc).symm
      have hkT : k + 1 ≤ T := by
        have : ¬ k = T := fun e => HTN.out (by rw [← e]; exact hc)
        omega
      clear hc
      go_wp2_with (first
        | (go_at_call 13; (with_reducible refine (contains_Q _ _ LR HSN hsb9 true HC).mono ?_); rintro e w3 ⟨rfl, rfl⟩)
        | fail)
      go_roundw
      case rel => exact ⟨k + 1, hkT, by go_num, HB⟩
      case measure => simp [intOf]; omega
    · have HC : Hid (false = decide ((k : Int) ∈ slpL s.line)) := Lib.hid (decide_eq_false hc).symm
      obtain ⟨x, hx⟩ : ∃ x, errV s ⟨2, (k : Int)⟩ = x := ⟨_, rfl⟩
      obtain ⟨s2, hs2⟩ : ∃ s2, stepV s ⟨2, (k : Int)⟩ = s2 := ⟨_, rfl⟩
      have hr2 : runV newV (ops ++ [⟨2, (k : Int)⟩]) = s2 := by rw [runV_one, HS.out, hs2]
      have he2 : errsV newV (ops ++ [⟨2, (k : Int)⟩]) = es ++ [x] := by rw [errsV_one, HES.out, HS.out, hx]
      have hxe : (es ++ [x])[n]? = some x := by rw [List.getElem?_append_right (by rw [HEL.out]; exact Nat.le_refl _), HEL.out, Nat.sub_self]; rfl
      have HXE := Lib.hid hxe
      have HM5 : Hid ((ops ++ [(⟨2, (k : Int)⟩ : WvT)]).length = n + 1) := Lib.hid (by rw [List.length_append, hm.out]; rfl)
      have hm1 : Hid (([⟨2, (k : Int)⟩] : List WvT).length = 1) := Lib.hid rfl
      have BA2 := HB.out.size
      by_cases hx0 : x = 0
      · subst hx0
        have hg2 : s2.got = s.got ++ [(k : Int)] := by rw [← hs2, look_got hx]
        have hgn2 : s2.got.length = gn + 1 := by rw [hg2, List.length_append, HGN.out]; rfl
        have hge : (s.got ++ [(k : Int)])[gn]? = some (k : Int) := by rw [List.getElem?_append_right (by rw [HGN.out]; exact Nat.le_refl _), HGN.out, Nat.sub_self]; rfl
        have HGE := Lib.hid hge
        have HG2 := Lib.hid hg2
        have HP2 := Lib.hid (fun (ra : Option Addr) (rc : Nat) X (HX : Hid (shV.At X ra rc (ops ++ [⟨2, (k : Int)⟩]))) => play_res HM5 (by omega) (Lib.hid he2) (Lib.hid hr2) (Lib.hid hgn2) (Lib.hid rfl) (Lib.hid rfl) ra rc X HX)
        unfold PlayN at HP2
        clear hc hx hs2 hr2 he2 hxe hg2 hgn2 hge
        generalize (slpL s2.line).length = sn2 at HP2
        generalize s2.things = th2 at HP2
        go_upto_region 11 with (first
          | (go_at_call 13; (with_reducible refine (contains_Q _ _ LR HSN hsb9 false HC).mono ?_); rintro e w3 ⟨rfl, hw3⟩; subst hw3)
          | (go_at_call 14; (with_reducible refine (clone_V ops ad n cap _ hm AR hn).mono ?_); rintro e w3 ⟨ra, rc, rfl, own, hb⟩; have bx := below_alloc w3 (.cells #[.int .i64 2, .int .i64 k] 35); have B3 := Lib.hid (pstep (pstep HB.out hb) bx); have O3 := Lib.hid (own_step own bx); have X3 := Lib.hid (wv_oneAt w3 ⟨2, k⟩ 1); have hs3 : wr.heap.size ≤ (w3.alloc (.cells #[.int .i64 2, .int .i64 k] 35)).heap.size := Nat.le_trans hb.size bx.size; clear own hb bx)
          | (at_builtin; refine wpList_append_n shV rfl _ _ 22 rfl wr.heap.size 35 i0 _ 16 Try.underlying22 hi hz0 hz1 hz2 rfl (.slice ra n rc) n ops [⟨2, k⟩] hm rfl O3.out (some ⟨w3.heap.size, 0, none⟩) 1 1 rfl hm1 X3.out (by unfold maxLen; omega) (by omega) hs3 ?_; intro ra4 rc4 w4 own4 grow4 _; have R4 := Lib.hid (Shape.At.own (S := shV) own4 HM5.out); have B4 := Lib.hid (B3.out.grown grow4 B3.out.size (fun _ hk => Nat.le_trans BA2 (own_lt O3.out hk).1)); clear own4 grow4)
          | (go_at_call 8; (with_reducible refine (HP2.out ra4 rc4 _ R4).mono ?_); rintro e w5 ⟨E5, ga5, gc5, la5, lc5, rfl, hE, hD, _, hb⟩; rw [HG2.out] at hD; have B5 := Lib.hid (pstep B4.out hb); have F5 := Lib.hid hD; have E6 := Lib.hid hE; clear hb hE hD)
          | fail)
        obtain ⟨eb, eo, ee, heb, cx⟩ := at_int E6.out HXE.out
        cases ee
        rw [Nat.zero_add] at cx
        obtain ⟨gb, go, rfl, hgbl, cg⟩ := at_int F5.out HGE.out
        have B6 := Lib.hid (pstep B2.out B5.out)
        clear HP2 AR LR B4 R4 X3 O3 hs3 BA2
        go_wp2_with fail
        go_ret
        exact ⟨rfl, B6.out⟩
      · have hxb : (x == 0) = false := by simpa using hx0
        have hkT : k + 1 ≤ T := by
          have : ¬ k = T := fun e => hx0 (by rw [← hx, e]; exact HTE.out)
          omega
        have HP2 := Lib.hid (fun (ra : Option Addr) (rc : Nat) X (HX : Hid (shV.At X ra rc (ops ++ [⟨2, (k : Int)⟩]))) => play_res HM5 (by omega) (Lib.hid he2) (Lib.hid hr2) (Lib.hid rfl) (Lib.hid rfl) (Lib.hid rfl) ra rc X HX)
        unfold PlayN at HP2
        clear hc hx hs2 hr2 he2 hxe
        generalize (slpL s2.line).length = sn2 at HP2
        generalize s2.things = th2 at HP2
        generalize s2.got.length = gn2 at HP2
        go_upto_region 11 with (first
          | (go_at_call 13; (with_reducible refine (contains_Q _ _ LR HSN hsb9 false HC).mono ?_); rintro e w3 ⟨rfl, hw3⟩; subst hw3)
          | (go_at_call 14; (with_reducible refine (clone_V ops ad n cap _ hm AR hn).mono ?_); rintro e w3 ⟨ra, rc, rfl, own, hb⟩; have bx := below_alloc w3 (.cells #[.int .i64 2, .int .i64 k] 35); have B3 := Lib.hid (pstep (pstep HB.out hb) bx); have O3 := Lib.hid (own_step own bx); have X3 := Lib.hid (wv_oneAt w3 ⟨2, k⟩ 1); have hs3 : wr.heap.size ≤ (w3.alloc (.cells #[.int .i64 2, .int .i64 k] 35)).heap.size := Nat.le_trans hb.size bx.size; clear own hb bx)
          | (at_builtin; refine wpList_append_n shV rfl _ _ 22 rfl wr.heap.size 35 i0 _ 16 Try.underlying22 hi hz0 hz1 hz2 rfl (.slice ra n rc) n ops [⟨2, k⟩] hm rfl O3.out (some ⟨w3.heap.size, 0, none⟩) 1 1 rfl hm1 X3.out (by unfold maxLen; omega) (by omega) hs3 ?_; intro ra4 rc4 w4 own4 grow4 _; have R4 := Lib.hid (Shape.At.own (S := shV) own4 HM5.out); have B4 := Lib.hid (B3.out.grown grow4 B3.out.size (fun _ hk => Nat.le_trans BA2 (own_lt O3.out hk).1)); clear own4 grow4)
          | (go_at_call 8; (with_reducible refine (HP2.out ra4 rc4 _ R4).mono ?_); rintro e w5 ⟨E5, ga5, gc5, la5, lc5, rfl, hE, _, _, hb⟩; have B5 := Lib.hid (pstep B4.out hb); have E6 := Lib.hid hE; clear hb hE)
          | fail)
        obtain ⟨eb, eo, ee, heb, cx⟩ := at_int E6.out HXE.out
        cases ee
        rw [Nat.zero_add] at cx
        clear HP2 AR LR B4 R4 X3 O3 hs3 BA2
        go_wp2_with fail
        go_roundw
        case rel => exact ⟨k + 1, hkT, by go_num, B5⟩
        case measure => simp [intOf]; omega
end
theorem waitNever_walk (v : Value) (w : World) (h : ArgWvs w v) (u : lenOf v ≤ 8796093021952) : Calls Try.prog 4 #[v] w fun e w' => e = .returned (.bool true) ∧ Below w.heap.size w w' := by
  obtain ⟨a1, c1, l, rfl, hA, _, _⟩ := h
  exact nev_walk w (Lib.hid hA) (Lib.hid rfl) u
end Go.Proofs.Ytghonbiiichedaa
