/- RunqCount: who came is taken, or dropped, or there; and nobody is there twice. -/
import Derived.Test.YtgnpodeneknpdaaRqL
import Derived.Test.YtgnpodeneknpdaaSofW
import Derived.Test.YtgnpodeneknpdaaComp
namespace Go.Proofs.Ytgnpodeneknpdaa
open Go.RowKit

section
variable {ad : Option Addr} {cap n : Nat} {ops : List RuT}
set_option maxHeartbeats 4000000 in
set_option maxRecDepth 100000 in
theorem cnt_walk (w : World) (HA : Hid (shR.At w ad cap ops)) (hm : Hid (ops.length = n)) (hn : n ≤ 5864062014634) (HW : Hid (∀ o ∈ ops, WfI o.i)) :
    Calls Try.prog 8 #[.slice ad n cap] w fun e w' => e = .returned (.bool true) ∧ Below w.heap.size w w' := by
  obtain ⟨s, hs⟩ : ∃ s, runU newU ops = s := ⟨_, rfl⟩
  obtain ⟨es, hes⟩ : ∃ es, errsU newU ops = es := ⟨_, rfl⟩
  obtain ⟨tl, htl⟩ : ∃ tl, s.taken.length = tl := ⟨_, rfl⟩
  obtain ⟨ll, hll⟩ : ∃ ll, s.list.length = ll := ⟨_, rfl⟩
  have HP := Lib.hid (fun X (HX : Hid (shR.At X ad cap ops)) => play_res hm (by omega) HW (Lib.hid hes) (Lib.hid hs) (Lib.hid htl) (Lib.hid hll) ad cap X HX)
  have hsz := run_sizes hs
  rw [htl, hll, hm.out] at hsz
  have htot : cntU newU ops = (tl : Int) + (ll : Int) := by
    have h := siz_run (ops := ops) good_newU
    rw [hs] at h
    unfold sizU at h
    rw [htl, hll] at h
    have e0 : (newU.taken.length : Int) + (newU.list.length : Int) = 0 := rfl
    omega
  have hgood : GoodU s := by rw [← hs]; exact good_runU good_newU
  have hnod : (leftU s).Pairwise fun a b => ¬ a = b := by unfold leftU; rw [List.pairwise_map]; exact hgood.nod
  have hcl : (Lib.compact (sortI (leftU s))).length = ll := by
    have := comp_nodup hnod
    rw [left_len, hll] at this
    exact this
  have HES := Lib.hid hes
  have HTOT := Lib.hid htot
  have HCL := Lib.hid hcl
  have HLL : Hid ((leftU s).length = ll) := Lib.hid (by rw [left_len, hll])
  have HSL : Hid ((sortI (leftU s)).length = ll) := Lib.hid (by rw [sortI_len]; exact HLL.out)
  have hl8 : ll * 8 ≤ 140737488355328 := by omega
  have htw : IntKind.i64.wrap ((tl : Int) + (ll : Int)) = (tl : Int) + (ll : Int) := by rw [IntKind.wrap_i64]; omega
  clear hs hes htl hll htot hgood hnod hcl
  unfold PlayN at HP
  go_enter Try.func8, Try.ntmps8
  go_upto_region 6 with (first
    | (go_at_call 13; (with_reducible refine (alive13_N _).mono ?_); rintro e w1 ⟨rfl, hb⟩; have B1 := Lib.hid hb; have A1 := Lib.hid (HA.out.step hb); clear hb)
    | (go_at_call 9; (with_reducible refine (HP.out _ A1).mono ?_); rintro e w2 ⟨E, ta, tc, la, lc, rfl, hE, hT, hL, hb⟩; have B2 := Lib.hid (pstep B1.out hb); have A2 := Lib.hid (A1.out.step hb); have E2 := Lib.hid hE; have L2 := Lib.hid hL; clear hb hE hT hL)
    | fail)
  clear HP A1 B1
  go_loopw [6, 20] (fun v i wr => ∃ k : Nat, k ≤ n ∧ i = .int .i64 k ∧ v = .int .i64 (cntU newU (ops.take k)) ∧ Hid (Below w2.heap.size w2 wr)) (fun _ i _ => n - (intOf i).toNat)
  case atStart => exact ⟨0, Nat.zero_le _, rfl, rfl, Lib.hid (Below.refl _ _)⟩
  case round =>
    obtain ⟨k, hk, rfl, rfl, HB⟩ := hrel
    by_cases hlt : k < n
    · obtain ⟨o, ho⟩ : ∃ o, ops[k]? = some o := ⟨ops[k]'(by rw [hm.out]; exact hlt), List.getElem?_eq_getElem _⟩
      have hx := errsU_at ho newU
      rw [HES.out] at hx
      have hnx := cntU_next ho newU
      have hab := cnt_abs (ops := ops.take k) (s := newU)
      rw [List.length_take, hm.out, Nat.min_eq_left hk] at hab
      obtain ⟨eb, eo, ee, heb, cx⟩ := at_int E2.out hx
      cases ee
      rw [Nat.zero_add] at cx
      have cx2 := (HB.out.cell (p := ⟨E, k, none⟩) heb).trans cx
      have hEl := Nat.lt_of_lt_of_le heb HB.out.size
      obtain ⟨b, off, rfl, hb, e0, e1, e2⟩ := at_ru A2.out ho
      have g0 := (HB.out.cell (p := ⟨b, off + k * 3, none⟩) hb).trans e0
      have g1 := (HB.out.cell (p := ⟨b, off + k * 3 + 1, none⟩) hb).trans e1
      have g2 := (HB.out.cell (p := ⟨b, off + k * 3 + 2, none⟩) hb).trans e2
      have hbr : b < wr.heap.size := Nat.lt_of_lt_of_le hb HB.out.size
      have BA := Lib.hid (HB.out.trans ((below_alloc wr (.cells #[.int .i64 o.k, .int .i64 o.i, .int .i64 o.l] 34)).mono HB.out.size))
      have hkind : errU (runU newU (ops.take k)) o = 0 → o.k = 1 ∨ o.k = 2 ∨ o.k = 3 ∨ o.k = 4 := fun h => errU_kinds h
      obtain ⟨c, hc⟩ : ∃ c, cntU newU (ops.take k) = c := ⟨_, rfl⟩
      obtain ⟨x, hxx⟩ : ∃ x, errU (runU newU (ops.take k)) o = x := ⟨_, rfl⟩
      obtain ⟨kd, id, lv⟩ := o
      simp only at g0 g1 g2 hnx hkind hxx
      rw [hc] at hab hnx ⊢
      rw [hxx] at hnx hkind cx2
      have HNX := Lib.hid hnx
      clear hx hnx cx e0 e1 e2 ho hc hxx heb hb
      have hdk : decide (k < n) = true := decide_eq_true hlt
      have w1 : IntKind.i64.wrap (c + 1) = c + 1 := by rw [IntKind.wrap_i64]; omega
      have w2' : IntKind.i64.wrap (c - 1) = c - 1 := by rw [IntKind.wrap_i64]; omega
      by_cases hx0 : x = 0
      · subst hx0
        rcases hkind rfl with rfl | rfl | rfl | rfl
        · go_wp2_with fail
          go_roundw
          case rel => exact ⟨k + 1, by omega, by go_num, by rw [HNX.out]; rfl, BA⟩
          case measure => simp [intOf]; omega
        · go_wp2_with fail
          go_roundw
          case rel => exact ⟨k + 1, by omega, by go_num, by rw [HNX.out]; rfl, BA⟩
          case measure => simp [intOf]; omega
        · go_wp2_with fail
          go_roundw
          case rel => exact ⟨k + 1, by omega, by go_num, by rw [HNX.out]; simp, BA⟩
          case measure => simp [intOf]; omega
        · go_wp2_with fail
          go_roundw
          case rel => exact ⟨k + 1, by omega, by go_num, by rw [HNX.out]; rfl, BA⟩
          case measure => simp [intOf]; omega
      · have hxb : (x == 0) = false := by simpa using hx0
        have HX0 := Lib.hid hx0
        clear hkind
        go_wp2_with fail
        go_roundw
        case rel => exact ⟨k + 1, by omega, by go_num, by rw [HNX.out, if_neg HX0.out]; simp, BA⟩
        case measure => simp [intOf]; omega
    · obtain rfl : k = n := by omega
      have e : ops.take k = ops := by rw [← hm.out, List.take_length]
      rw [e, HTOT.out]
      have L3 := Lib.hid (L2.out.step HB.out)
      have B3 := Lib.hid (pstep B2.out HB.out)
      have BV := Lib.hid (below_alloc wr (.cells #[.slice la ll lc] 24))
      have CV := one_at (heap_alloc_new wr (.cells #[.slice la ll lc] 24))
      have LV : wr.heap.size < (wr.alloc (.cells #[.slice la ll lc] 24)).heap.size := by simp
      clear e hlt hk A2 E2
      by_cases h0 : ll = 0
      · subst h0
        go_wp2_with (first
          | (go_at_call 21; (with_reducible refine (values_N _ _ _ _).mono ?_); rintro e w3 ⟨rfl, rfl⟩)
          | (go_at_call 20; (with_reducible refine (sorted_0 wr.heap.size wr _ L3 HLL BV LV CV).mono ?_); rintro e w4 ⟨rfl, hb⟩; have B4 := Lib.hid (pstep B3.out (BV.out.trans (hb.mono BV.out.size))); clear hb)
          | (go_at_call 19; (with_reducible refine (compact_nil _ _ _).mono ?_); rintro e w5 ⟨rfl, rfl⟩)
          | fail)
        go_ret
        exact ⟨rfl, B4.out⟩
      · have hp : 0 < ll := by omega
        go_wp2_with (first
          | (go_at_call 21; (with_reducible refine (values_N _ _ _ _).mono ?_); rintro e w3 ⟨rfl, rfl⟩)
          | (go_at_call 20; (with_reducible refine (sorted_N wr.heap.size wr _ L3 HLL hp BV hl8 LV CV).mono ?_); rintro e w4 ⟨g, c, rfl, ho, hb⟩; have O4 := Lib.hid ho; have B4 := Lib.hid (pstep B3.out (BV.out.trans (hb.mono BV.out.size))); clear ho hb)
          | (go_at_call 19; (with_reducible refine (compact_N _ HSL O4).mono ?_); rintro e w5 ⟨rfl, ha, hg, hbase⟩; rw [HCL.out]; have B5 := Lib.hid (B4.out.grown hg B4.out.size (fun k hk => by cases hk; have h1 := B3.out.size; have h2 := BV.out.size; omega)); clear ha hg hbase)
          | fail)
        go_ret
        exact ⟨rfl, B5.out⟩
end
theorem runqCount_walk (v : Value) (w : World) (h : ArgRus w v) (u : lenOf v ≤ 5864062014634) : Calls Try.prog 8 #[v] w fun e w' => e = .returned (.bool true) ∧ Below w.heap.size w w' := by
  obtain ⟨a1, c1, l, rfl, hA, hwf, _, _⟩ := h
  exact cnt_walk w (Lib.hid hA) (Lib.hid rfl) u (Lib.hid hwf)
end Go.Proofs.Ytgnpodeneknpdaa
