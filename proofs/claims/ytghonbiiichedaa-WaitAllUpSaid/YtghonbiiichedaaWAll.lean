/- WaitAllUp: who wakes all wakes all. -/
import Derived.Test.YtghonbiiichedaaWtK
import Derived.Test.YtghonbiiichedaaWtO
namespace Go.Proofs.Ytghonbiiichedaa
open Go.RowKit

section
variable {ad : Option Addr} {cap n : Nat} {ops : List WvT}
set_option maxHeartbeats 4000000 in
set_option maxRecDepth 100000 in
theorem all_walk (t : Int) (w : World) (HA : Hid (shV.At w ad cap ops)) (hm : Hid (ops.length = n)) (hn : n ≤ 8796093021952) :
    Calls Try.prog 7 #[.slice ad n cap, .int .i64 t] w fun e w' => e = .returned (.bool true) ∧ Below w.heap.size w w' := by
  obtain ⟨i0, hi, hz0, hz1, hz2⟩ := info_parts' info_wv
  obtain ⟨s, hs⟩ : ∃ s, runV newV ops = s := ⟨_, rfl⟩
  obtain ⟨es, hes⟩ : ∃ es, errsV newV ops = es := ⟨_, rfl⟩
  obtain ⟨hu1, hu2, hu3, hu4⟩ := allup_V s t
  obtain ⟨s2, hs2⟩ : ∃ s2, runV newV (ops ++ [⟨5, 0⟩, ⟨3, t⟩]) = s2 := ⟨_, rfl⟩
  obtain ⟨es2, hes2⟩ : ∃ es2, errsV newV (ops ++ [⟨5, 0⟩, ⟨3, t⟩]) = es2 := ⟨_, rfl⟩
  have hs2' : runV s [⟨5, 0⟩, ⟨3, t⟩] = s2 := by rw [← hs2, runV_append, hs]
  rw [hs2'] at hu2 hu3 hu4
  have hel : es.length = n := by rw [← hes, errsV_len, hm.out]
  have hxe : es2[n]? = some 0 := by
    rw [← hes2, errsV_append, hes, hs, List.getElem?_append_right (by omega), hel, Nat.sub_self, errsV, hu1]
    rfl
  obtain ⟨gn, hgn⟩ : ∃ gn, s.got.length = gn := ⟨_, rfl⟩
  obtain ⟨sn, hsn⟩ : ∃ sn, (slpL s.line).length = sn := ⟨_, rfl⟩
  obtain ⟨th, hth⟩ : ∃ th, s.things = th := ⟨_, rfl⟩
  have hgn2 : s2.got.length = gn := by rw [hu3, hgn]
  have hth2 : s2.things = th := by rw [hu4, hth]
  have hsn2 : (slpL s2.line).length = 0 := by
    have e : slpL s2.line = [] := hu2
    rw [e]
    rfl
  have HM5 : Hid ((ops ++ [(⟨5, 0⟩ : WvT), ⟨3, t⟩]).length = n + 2) := Lib.hid (by rw [List.length_append, hm.out]; rfl)
  have HP1 := Lib.hid (fun X (HX : Hid (shV.At X ad cap ops)) => play_res hm (by omega) (Lib.hid hes) (Lib.hid hs) (Lib.hid hgn) (Lib.hid hsn) (Lib.hid hth) ad cap X HX)
  have HP2 := Lib.hid (fun (ra : Option Addr) (rc : Nat) X (HX : Hid (shV.At X ra rc (ops ++ [⟨5, 0⟩, ⟨3, t⟩]))) => play_res HM5 (by omega) (Lib.hid hes2) (Lib.hid hs2) (Lib.hid hgn2) (Lib.hid hsn2) (Lib.hid hth2) ra rc X HX)
  have hgb : gn ≤ 9223372036854775807 := by
    have h : gn ≤ n := by rw [← hgn, ← hs, ← hm.out]; exact got_newV ops
    omega
  have HGN := Lib.hid hgn
  have HU3 := Lib.hid hu3
  have HXE := Lib.hid hxe
  have hm2 : Hid (([⟨5, 0⟩, ⟨3, t⟩] : List WvT).length = 2) := Lib.hid rfl
  have hnw : IntKind.i64.wrap ((n : Int) + 2) = (n : Int) + 2 := by rw [IntKind.wrap_i64]; omega
  have hnd : decide (n < n + 2) = true := decide_eq_true (by omega)
  have hnd2 : (n : Int) < (n : Int) + 2 := by omega
  have hn0 : (0 : Int) ≤ (n : Int) := by omega
  unfold PlayN at HP1 HP2
  clear hs hes hu1 hu2 hu3 hu4 hs2 hes2 hs2' hel hxe hgn hsn hth hgn2 hth2 hsn2
  go_enter Try.func7, Try.ntmps7
  go_upto_region 5 with (first
    | (go_at_call 12; (with_reducible refine (alive15_N _).mono ?_); rintro e w1 ⟨rfl, hb⟩; have B1 := Lib.hid hb; have A1 := Lib.hid (HA.out.step hb); clear hb)
    | (go_at_call 8; (with_reducible refine (HP1.out _ A1).mono ?_); rintro e w2 ⟨E, ga, gc, la, lc, rfl, _, hD, _, hb⟩; have B2 := Lib.hid (pstep B1.out hb); have A2 := Lib.hid (A1.out.step hb); have D2 := Lib.hid hD; clear hb hD)
    | (go_at_call 14; (with_reducible refine (clone_V ops ad n cap _ hm A2 hn).mono ?_); rintro e w3 ⟨ra, rc, rfl, own, hb⟩; have bx := below_alloc w3 (.cells #[.int .i64 5, .int .i64 0, .int .i64 3, .int .i64 t] 35); have B3 := Lib.hid (pstep (pstep B2.out hb) bx); have D3 := Lib.hid ((D2.out.step hb).step bx); have O3 := Lib.hid (own_step own bx); have X3 := Lib.hid (wv_twoAt w3 ⟨5, 0⟩ ⟨3, t⟩ 2); have hs3 : w2.heap.size ≤ (w3.alloc (.cells #[.int .i64 5, .int .i64 0, .int .i64 3, .int .i64 t] 35)).heap.size := Nat.le_trans hb.size bx.size; have hs0 := (B2.out).size; clear own hb bx)
    | (at_builtin; refine wpList_append_n shV rfl _ _ 22 rfl w2.heap.size 35 i0 _ 16 Try.underlying22 hi hz0 hz1 hz2 rfl (.slice ra n rc) n ops [⟨5, 0⟩, ⟨3, t⟩] hm rfl O3.out (some ⟨w3.heap.size, 0, none⟩) 2 2 rfl hm2 X3.out (by unfold maxLen; omega) (by omega) hs3 ?_; intro ra4 rc4 w4 own4 grow4 _; have R4 := Lib.hid (Shape.At.own (S := shV) own4 HM5.out); have B4 := Lib.hid (B3.out.grown grow4 B3.out.size (fun _ hk => Nat.le_trans hs0 (own_lt O3.out hk).1)); have hw4 : ∀ g, (Value.slice ra n rc).ownBlock = some g → w2.heap.size ≤ g := (fun g hg => (own_lt O3.out hg).1); have D4 := Lib.hid (Shape.At.same_grown D3.out O3.out grow4 D2.out); clear own4 grow4 hw4)
    | (go_at_call 8; (with_reducible refine (HP2.out ra4 rc4 _ R4).mono ?_); rintro e w5 ⟨E5, ga5, gc5, la5, lc5, rfl, hE, hD, _, hb⟩; rw [HU3.out] at hD; have B5 := Lib.hid (pstep B4.out hb); have D5 := Lib.hid (D4.out.step hb); have F5 := Lib.hid hD; have E6 := Lib.hid hE; clear hb hE hD)
    | fail)
  obtain ⟨eb, eo, ee, heb, cx⟩ := at_int E6.out HXE.out
  cases ee
  rw [Nat.zero_add] at cx
  clear HP1 HP2 A1 A2 B1 B2 B3 B4 R4 X3 O3 D2 D3 D4 HA hs3 hs0
  go_wp2_with (first
    | (go_at_call 11; (with_reducible refine (equalI _ HGN D5 F5 hgb).mono ?_); rintro e w6 ⟨rfl, hb⟩; have B6 := Lib.hid (pstep B5.out hb); clear hb)
    | fail)
  go_ret
  exact ⟨rfl, B6.out⟩
end
theorem waitAllUp_walk (v v1 : Value) (w : World) (h : ArgWvs w v) (h1 : ArgInt w v1) (u : lenOf v ≤ 8796093021952) : Calls Try.prog 7 #[v, v1] w fun e w' => e = .returned (.bool true) ∧ Below w.heap.size w w' := by
  obtain ⟨a1, c1, l, rfl, hA, _, _⟩ := h
  obtain ⟨t, rfl⟩ := h1
  exact all_walk t w (Lib.hid hA) (Lib.hid rfl) u
end Go.Proofs.Ytghonbiiichedaa
