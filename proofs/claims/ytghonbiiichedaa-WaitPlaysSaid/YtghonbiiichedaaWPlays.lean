/- WaitPlays: wait.Play answers what corebellref.OPlay answers. -/
import Derived.Test.YtghonbiiichedaaWtR
import Derived.Test.YtghonbiiichedaaWtO
namespace Go.Proofs.Ytghonbiiichedaa
open Go.RowKit

section
variable {ad : Option Addr} {cap n : Nat} {ops : List WvT}
set_option maxHeartbeats 2000000 in
set_option maxRecDepth 100000 in
theorem plays_walk (w : World) (HA : Hid (shV.At w ad cap ops)) (hm : Hid (ops.length = n)) (hn : n ≤ 8796093021952) :
    Calls Try.prog 3 #[.slice ad n cap] w fun e w' => e = .returned (.bool true) ∧ Below w.heap.size w w' := by
  obtain ⟨s, hs⟩ : ∃ s, runV newV ops = s := ⟨_, rfl⟩
  obtain ⟨es, hes⟩ : ∃ es, errsV newV ops = es := ⟨_, rfl⟩
  have hgood : GoodV s := by rw [← hs]; exact good_runV good_newV
  obtain ⟨gn, hgn⟩ : ∃ gn, s.got.length = gn := ⟨_, rfl⟩
  obtain ⟨sn, hsn⟩ : ∃ sn, (slpL s.line).length = sn := ⟨_, rfl⟩
  obtain ⟨th, hth⟩ : ∃ th, s.things = th := ⟨_, rfl⟩
  have HP1 := Lib.hid (fun X (HX : Hid (shV.At X ad cap ops)) => play_res hm (by omega) (Lib.hid hes) (Lib.hid hs) (Lib.hid hgn) (Lib.hid hsn) (Lib.hid hth) ad cap X HX)
  have HP2 := Lib.hid (fun X (HX : Hid (shV.At X ad cap ops)) => oplay_ok X HX hm (by omega))
  have hgb : gn ≤ 9223372036854775807 := by
    have h : gn ≤ n := by rw [← hgn, ← hs, ← hm.out]; exact got_newV ops
    omega
  have hsb : sn ≤ 9223372036854775807 := by
    have h1 := slp_le s.line
    have h2 := line_len hgood
    omega
  have hnb : n ≤ 9223372036854775807 := by omega
  have HEL : Hid (es.length = n) := Lib.hid (by rw [← hes, errsV_len, hm.out])
  have HGN := Lib.hid hgn
  have HSN := Lib.hid hsn
  unfold PlayN at HP1
  unfold RefOut at HP2
  rw [hs, hes] at HP2
  simp only [hgn, hsn, hth] at HP2
  clear hs hes hgn hsn hth hgood
  go_enter Try.func3, Try.ntmps3
  go_wp2_with (first
    | (go_at_call 8; (with_reducible refine (HP1.out _ HA).mono ?_); rintro e w1 ⟨E, da, dc, wa, wc, rfl, hE, hD, hW, hb⟩; have B1 := Lib.hid hb; have A1 := Lib.hid (HA.out.step hb); have E1 := Lib.hid hE; have D1 := Lib.hid hD; have W1 := Lib.hid hW; clear hb hE hD hW)
    | (go_at_call 9; (with_reducible refine (HP2.out _ A1).mono ?_); rintro e w2 ⟨ea, ec, da2, dc2, wa2, wc2, rfl, hE, hD, hW, hb⟩; have B2 := Lib.hid (pstep B1.out hb); have E2 := Lib.hid (E1.out.step hb); have D2 := Lib.hid (D1.out.step hb); have W2 := Lib.hid (W1.out.step hb); have E2' := Lib.hid hE; have D2' := Lib.hid hD; have W2' := Lib.hid hW; clear hb hE hD hW)
    | (go_at_call 10; (with_reducible refine (equalE _ HEL E2 E2' hnb).mono ?_); rintro e w3 ⟨rfl, hb⟩; have B3 := Lib.hid (pstep B2.out hb); have D3 := Lib.hid (D2.out.step hb); have W3 := Lib.hid (W2.out.step hb); have D3' := Lib.hid (D2'.out.step hb); have W3' := Lib.hid (W2'.out.step hb); clear hb)
    | (go_at_call 11; (with_reducible refine (equalI _ HGN D3 D3' hgb).mono ?_); rintro e w4 ⟨rfl, hb⟩; have B4 := Lib.hid (pstep B3.out hb); have W4 := Lib.hid (W3.out.step hb); have W4' := Lib.hid (W3'.out.step hb); clear hb)
    | (go_at_call 11; (with_reducible refine (equalI _ HSN W4 W4' hsb).mono ?_); rintro e w5 ⟨rfl, hb⟩; have B5 := Lib.hid (pstep B4.out hb); clear hb)
    | fail)
  go_ret
  exact ⟨rfl, B5.out⟩
end
theorem waitPlays_walk (v : Value) (w : World) (h : ArgWvs w v) (u : lenOf v ≤ 8796093021952) : Calls Try.prog 3 #[v] w fun e w' => e = .returned (.bool true) ∧ Below w.heap.size w w' := by
  obtain ⟨a1, c1, l, rfl, hA, _, _⟩ := h
  exact plays_walk w (Lib.hid hA) (Lib.hid rfl) u
end Go.Proofs.Ytghonbiiichedaa
