/- The walk of LineEdges. -/
import Derived.Test.YtkmjbompbkbfaaaLinS
import Derived.Test.YtkmjbompbkbfaaaPinO
namespace Go.Proofs.Ytkmjbompbkbfaaa
open Go.RowKit

def cntOf (b : Bool) : Int := if b = true then 1 else 0
theorem cnt_true : cntOf true = 1 := rfl
theorem cnt_false : cntOf false = 0 := rfl
theorem count_R (b : Bool) (w : World) : Calls Try.prog 18 #[.bool b] w fun e w' => e = .returned (.int .i64 (cntOf b)) ∧ w = w' := by
  go_enter Try.func18, Try.ntmps18
  cases b
  all_goals
    go_wp2
    go_ret
    exact ⟨rfl, rfl⟩
set_option maxHeartbeats 4000000 in
set_option maxRecDepth 100000 in
theorem lineEdges_bad (ad oad : Option Addr) (cap ocap n : Nat) (l : List PinT) (x : Int) (w : World) (HA : Hid (PinsAt w ad cap l)) (hlen : l.length ≤ 9223372036854775807) (hr : pinsOk l = false) :
    Calls Try.prog 7 #[.slice ad l.length cap, .slice oad n ocap, .int .i64 x] w fun e w' => e = .returned (.bool true) ∧ Below w.heap.size w w' := by
  go_enter Try.func7, Try.ntmps7
  go_wp2_with (first
    | (go_at_call 17; (with_reducible refine (alive3_R _).mono ?_); rintro e w1 ⟨rfl, hb⟩; have B1 := pstep (Below.refl _ _) hb; have S1 := B1.size; clear hb)
    | (go_at_call 12; (with_reducible refine (right_U _ (HA.out.step B1) hlen false hr).mono ?_); rintro e w2 ⟨rfl, hb⟩; have B2 := pstep B1 hb; have S2 := B2.size; clear hb)
    | fail)
  go_ret
  exact ⟨rfl, B2⟩
set_option maxHeartbeats 4000000 in
set_option maxRecDepth 100000 in
theorem lineEdges_neg (ad oad : Option Addr) (cap ocap n : Nat) (l : List PinT) (x : Int) (w : World) (HA : Hid (PinsAt w ad cap l)) (hlen : l.length ≤ 9223372036854775807) (hr : pinsOk l = true) (hx : x < 0) :
    Calls Try.prog 7 #[.slice ad l.length cap, .slice oad n ocap, .int .i64 x] w fun e w' => e = .returned (.bool true) ∧ Below w.heap.size w w' := by
  have d1 : decide (x < 0) = true := by simpa using hx
  go_enter Try.func7, Try.ntmps7
  go_wp2_with (first
    | (go_at_call 17; (with_reducible refine (alive3_R _).mono ?_); rintro e w1 ⟨rfl, hb⟩; have B1 := pstep (Below.refl _ _) hb; have S1 := B1.size; clear hb)
    | (go_at_call 12; (with_reducible refine (right_U _ (HA.out.step B1) hlen true hr).mono ?_); rintro e w2 ⟨rfl, hb⟩; have B2 := pstep B1 hb; have S2 := B2.size; clear hb)
    | fail)
  go_ret
  exact ⟨rfl, B2⟩
set_option maxHeartbeats 4000000 in
set_option maxRecDepth 100000 in
theorem lineEdges_past (ad oad : Option Addr) (cap ocap n : Nat) (l : List PinT) (x : Int) (w : World) (HA : Hid (PinsAt w ad cap l)) (hlen : l.length ≤ 9223372036854775807) (hr : pinsOk l = true) (h0 : 0 ≤ x) (hx : (l.length : Int) ≤ x) :
    Calls Try.prog 7 #[.slice ad l.length cap, .slice oad n ocap, .int .i64 x] w fun e w' => e = .returned (.bool true) ∧ Below w.heap.size w w' := by
  have d1 : decide (x < 0) = false := by simp; omega
  have d2 : decide ((l.length : Int) ≤ x) = true := by simpa using hx
  go_enter Try.func7, Try.ntmps7
  go_wp2_with (first
    | (go_at_call 17; (with_reducible refine (alive3_R _).mono ?_); rintro e w1 ⟨rfl, hb⟩; have B1 := pstep (Below.refl _ _) hb; have S1 := B1.size; clear hb)
    | (go_at_call 12; (with_reducible refine (right_U _ (HA.out.step B1) hlen true hr).mono ?_); rintro e w2 ⟨rfl, hb⟩; have B2 := pstep B1 hb; have S2 := B2.size; clear hb)
    | fail)
  go_ret
  exact ⟨rfl, B2⟩
set_option maxHeartbeats 4000000 in
set_option maxRecDepth 100000 in
theorem lineEdges_kind (ad oad : Option Addr) (cap ocap n : Nat) (l : List PinT) (r : Nat) (w : World) (HA : Hid (PinsAt w ad cap l)) (hlen : l.length ≤ 9223372036854775807) (hr : pinsOk l = true) (hx : r < l.length) (hl : (l.getD r pin0).level = true) :
    Calls Try.prog 7 #[.slice ad l.length cap, .slice oad n ocap, .int .i64 (r : Int)] w fun e w' => e = .returned (.bool true) ∧ Below w.heap.size w w' := by
  obtain ⟨b, off, rfl, hb, HL0⟩ := HA.out.2 (by omega)
  have HL := Lib.hid HL0
  have d1 : decide ((r : Int) < 0) = false := by simp
  have d2 : decide ((l.length : Int) ≤ (r : Int)) = false := by simp; omega
  have d3 : decide (l.length ≤ r) = false := by simp; omega
  clear HL0
  go_enter Try.func7, Try.ntmps7
  go_wp2_with (first
    | (go_at_call 17; (with_reducible refine (alive3_R _).mono ?_); rintro e w1 ⟨rfl, hb⟩; have B1 := pstep (Below.refl _ _) hb; have S1 := B1.size; clear hb)
    | (go_at_call 12; (with_reducible refine (right_U _ (HA.out.step B1) hlen true hr).mono ?_); rintro e w2 ⟨rfl, hbx⟩; have B2 := pstep B1 hbx; have S2 := B2.size; have hc : w2.cell? ⟨b, off + r * 7 + 2, none⟩ = some (.bool true) := (by rw [← hl]; exact (HL.out.step B2 hb) r hx 2 (by decide)); clear hbx)
    | fail)
  go_ret
  exact ⟨rfl, B2⟩
set_option maxHeartbeats 4000000 in
set_option maxRecDepth 100000 in
theorem lineEdges_main (ad oad : Option Addr) (cap ocap n : Nat) (l : List PinT) (K P : Nat → Int) (r : Nat) (w : World) (HA : Hid (PinsAt w ad cap l)) (HO : Hid (OpsAt w oad ocap K P n)) (hlen : l.length ≤ 9223372036854775807) (hn : n ≤ 9223372036854775807) (hr : pinsOk l = true) (hx : r < l.length) (hl : (l.getD r pin0).level = false) :
    Calls Try.prog 7 #[.slice ad l.length cap, .slice oad n ocap, .int .i64 (r : Int)] w fun e w' => e = .returned (.bool true) ∧ Below w.heap.size w w' := by
  obtain ⟨b, off, rfl, hb, HL0⟩ := HA.out.2 (by omega)
  have HL := Lib.hid HL0
  have h24 := pins_24 hr
  have hr63 : r ≤ 9223372036854775807 := by omega
  have d1 : decide ((r : Int) < 0) = false := by simp
  have d2 : decide ((l.length : Int) ≤ (r : Int)) = false := by simp; omega
  have d3 : decide (l.length ≤ r) = false := by simp; omega
  obtain ⟨p0, hp0⟩ : ∃ p0, l.getD r pin0 = p0 := ⟨_, rfl⟩
  have HP0 := Lib.hid hp0
  rw [hp0] at hl
  clear HL0 hp0
  skip
  go_enter Try.func7, Try.ntmps7
  go_wp2_with (first
    | (go_at_call 17; (with_reducible refine (alive3_R _).mono ?_); rintro e w1 ⟨rfl, hb⟩; have B1 := pstep (Below.refl _ _) hb; have S1 := B1.size; clear hb)
    | (go_at_call 12; (with_reducible refine (right_U _ (HA.out.step B1) hlen true hr).mono ?_); rintro e w2 ⟨rfl, hbx⟩; have B2 := pstep B1 hbx; have S2 := B2.size; obtain ⟨_, _, z2, z3, z4, z5, z6⟩ := (HL.out.step B2 hb).at r hx p0 HP0.out; rw [hl] at z2; clear hbx)
    | (go_at_call 18; (with_reducible refine (count_R _ _).mono ?_); rintro e wc ⟨rfl, rfl⟩)
    | fail)
  have LW2 := Lib.hid (HL.out.step B2 hb)
  have hb2 := Nat.lt_of_lt_of_le hb S2
  clear z2 z3 z4 z5 z6
  go_loopw [0, 8, 45] (fun s0 sv i wr => ∃ (k cb coff rc : Nat) (cur : List PinT) (o : Bool), k ≤ n ∧ i = .int .i64 k ∧ s0 = .slice (some ⟨cb, coff, none⟩) l.length rc ∧ cur.length = l.length ∧ pinsOk cur = true ∧ (cur.getD r pin0).level = false ∧ sv = .int .i64 (cntOf o) ∧ (cur.getD r pin0).kept = o ∧ cb < wr.heap.size ∧ LiesP wr cb coff cur ∧ Below w.heap.size w wr) (fun _ _ i _ => n - (intOf i).toNat)
  case atStart => exact ⟨0, b, off, cap, l, p0.kept, Nat.zero_le _, rfl, rfl, rfl, hr, by rw [HP0.out]; exact hl, rfl, by rw [HP0.out], hb2, LW2.out, B2⟩
  case round =>
    clear hl
    obtain ⟨k, cb, coff, rc, cur, o, hk, rfl, rfl, hcl, hok, hlv, rfl, hso, hcb, LC, BW⟩ := hrel
    clear B1 B2 S1 S2 HL LW2 HP0 hb hb2 HA
    by_cases hkl : k < n
    · obtain ⟨x, hx1⟩ : ∃ x : Int, K k = x := ⟨_, rfl⟩
      obtain ⟨y, hy1⟩ : ∃ y : Int, P k = y := ⟨_, rfl⟩
      obtain ⟨ob, ooff, rfl, hob, HLO⟩ := HO.out.2 (by omega)
      have e0 : wr.cell? ⟨ob, ooff + k * 2, none⟩ = some (.int .i64 x) := by rw [← hx1]; exact (BW.cell hob).trans (HLO k hkl).1
      have e1 : wr.cell? ⟨ob, ooff + k * 2 + 1, none⟩ = some (.int .i64 y) := by rw [← hy1]; exact (BW.cell hob).trans (HLO k hkl).2
      have hL := BW.size
      have h24 := pins_24 hok
      obtain ⟨pr, hpr⟩ : ∃ pr, cur.getD r pin0 = pr := ⟨_, rfl⟩
      rw [hpr] at hlv hso
      have okr : pr.ok = true := by rw [← hpr]; exact pins_each hok r (by omega)
      obtain ⟨_, _, z2, z3, z4, z5, z6⟩ := LC.at r (by omega) pr hpr
      rw [hlv] at z2
      have HPR := Lib.hid hpr
      have HCL := Lib.hid hcl
      have HLC := Lib.hid LC
      clear hx1 hy1 HLO hpr hcl LC
      obtain ⟨c, hc⟩ : ∃ c, chk l.length x y = c := ⟨_, rfl⟩
      by_cases hg : c = 0
      · subst hg
        obtain ⟨hx1, hx5, hy0, hyl⟩ := chk_ok.1 hc
        obtain ⟨q, rfl⟩ : ∃ q : Nat, y = q := ⟨y.toNat, by omega⟩
        have hq : q < l.length := by omega
        obtain ⟨p, hp⟩ : ∃ p, cur.getD q pin0 = p := ⟨_, rfl⟩
        obtain ⟨⟨p2, t⟩, hpt⟩ : ∃ g, pinStep p x = g := ⟨_, rfl⟩
        obtain ⟨m, hm⟩ : ∃ m, cur.set q p2 = m := ⟨_, rfl⟩
        have hmok : pinsOk m = true := by
          rw [← hm]
          refine pins_set hok q p2 ?_
          have := pinStep_ok p x (by rw [← hp]; exact pins_each hok q (by rw [HCL.out]; exact hq))
          rw [hpt] at this
          exact this
        have hml : m.length = l.length := by rw [← hm, List.length_set]; exact HCL.out
        have HP := Lib.hid hp
        have HPT := Lib.hid hpt
        have HMM := Lib.hid hm
        have HML := Lib.hid hml
        clear hc
        by_cases hqr : q = r
        · subst hqr
          have hpe : pr = p := by rw [← hp]; exact HPR.out.symm
          subst hpe
          have hmr : m.getD q pin0 = p2 := by rw [← hm]; exact get_set p2 (by rw [HCL.out]; exact hq)
          have HMR := Lib.hid hmr
          obtain ⟨f1, f2, f3⟩ := edg_facts pr x p2 t hx1 hx5 hlv hpt
          clear hp hpt hm hmr hml
          obtain ⟨c2, v2, l2, m2, u2, k2, s2⟩ := p2
          obtain ⟨o', ho⟩ : ∃ o', oweOf pr x = o' := ⟨_, rfl⟩
          simp only at f1 f2 f3
          rw [ho] at f2 f3
          subst f1 f2 f3
          by_cases hx1' : x = 1
          · subst hx1'
            have ho2 : o' = (o || !pr.up) := by rw [← ho, ← hso]; rfl
            subst ho2
            clear ho
            rw [hso] at z5
            obtain ⟨up, hup⟩ : ∃ up, pr.up = up := ⟨_, rfl⟩
            have HUP := Lib.hid hup
            rw [hup] at z4 HPT
            simp only [hup] at HMM HMR
            clear hup
            cases up <;> cases m2 <;> cases o
            all_goals
              first | rw [cnt_true] | rw [cnt_false]
              go_wp2_with (first
                | (go_at_call 10; (with_reducible refine (step_V _ q pr _ _ _ (Lib.hid (pins_of_lies (Nat.lt_of_lt_of_le hcb (below_alloc wr _).size) (HLC.out.step (below_alloc wr _) hcb))) hok HCL hx1 hx5 hq HP HPT m HMM).mono ?_); rintro e W3 ⟨h, cap', sa, sc, rfl, hh3, LM, hb3⟩; have G3 := bat' hb3 wr.heap.size (new_lt _ _); have B3 := pstep (below_more BW _) hb3; obtain ⟨_, _, y2, y3, y4, y5, y6⟩ := LM.at q (by rw [HML.out]; exact hx) _ HMR.out; simp only [Nat.zero_add] at y2 y3 y4 y5 y6; have LMH := Lib.hid LM; have yo := (((below_alloc wr _).trans (hb3.mono (below_alloc wr _).size)).cell (p := ⟨cb, coff + q * 7 + 4, none⟩) hcb).trans z4; clear hb3 LM)
                | fail)
              go_roundw
              case rel => exact ⟨k + 1, h, 0, cap', m, (m.getD q pin0).kept, by omega, by go_num, rfl, HML.out, hmok, by rw [HMR.out], by rw [HMR.out]; rfl, rfl, hh3, LMH.out, B3⟩
              case measure => simp [intOf]; omega
          · have hs2 : o' = o := by rw [← ho, ← hso]; unfold oweOf PinT.rose; rw [decide_eq_false hx1']; simp
            have hn5 : (x == 1) = false := by simpa using hx1'
            subst hs2
            clear ho
            rw [hso] at z5
            cases m2 <;> cases o'
            all_goals
              first | rw [cnt_true] | rw [cnt_false]
              go_wp2_with (first
                | (go_at_call 10; (with_reducible refine (step_V _ q pr _ _ _ (Lib.hid (pins_of_lies (Nat.lt_of_lt_of_le hcb (below_alloc wr _).size) (HLC.out.step (below_alloc wr _) hcb))) hok HCL hx1 hx5 hq HP HPT m HMM).mono ?_); rintro e W3 ⟨h, cap', sa, sc, rfl, hh3, LM, hb3⟩; have G3 := bat' hb3 wr.heap.size (new_lt _ _); have B3 := pstep (below_more BW _) hb3; obtain ⟨_, _, y2, y3, y4, y5, y6⟩ := LM.at q (by rw [HML.out]; exact hx) _ HMR.out; simp only [Nat.zero_add] at y2 y3 y4 y5 y6; have LMH := Lib.hid LM; have yo := (((below_alloc wr _).trans (hb3.mono (below_alloc wr _).size)).cell (p := ⟨cb, coff + q * 7 + 4, none⟩) hcb).trans z4; clear hb3 LM)
                | fail)
              go_roundw
              case rel => exact ⟨k + 1, h, 0, cap', m, (m.getD q pin0).kept, by omega, by go_num, rfl, HML.out, hmok, by rw [HMR.out], by rw [HMR.out]; rfl, rfl, hh3, LMH.out, B3⟩
              case measure => simp [intOf]; omega
        · have hmr : m.getD r pin0 = pr := by rw [← hm, set_other p2 (fun e => hqr e.symm)]; exact HPR.out
          have HMR := Lib.hid hmr
          have hn1 : ((q : Int) != (r : Int)) = true := by simp; omega
          have hn2 : (q != r) = true := by simpa using hqr
          have hn3 : ((q : Int) == (r : Int)) = false := by simp; omega
          have hn4 : (q == r) = false := by simpa using hqr
          clear hp hpt hm hmr hml
          have hkm : o = true → pr.masked = true := by rw [← hso]; exact kept_masked okr hlv
          obtain ⟨mk, hmk⟩ : ∃ mk, pr.masked = mk := ⟨_, rfl⟩
          have HMK := Lib.hid hmk
          rw [hmk] at hkm
          clear hmk
          cases o
          all_goals
            first | rw [cnt_true] | rw [cnt_false]
            (try (obtain rfl : mk = true := hkm rfl)); clear hkm
            go_wp2_with (first
              | (go_at_call 10; (with_reducible refine (step_V _ q p _ _ _ (Lib.hid (pins_of_lies (Nat.lt_of_lt_of_le hcb (below_alloc wr _).size) (HLC.out.step (below_alloc wr _) hcb))) hok HCL hx1 hx5 hq HP HPT m HMM).mono ?_); rintro e W3 ⟨h, cap', sa, sc, rfl, hh3, LM, hb3⟩; have G3 := bat' hb3 wr.heap.size (new_lt _ _); have B3 := pstep (below_more BW _) hb3; obtain ⟨_, _, y2, y3, y4, y5, y6⟩ := LM.at r (by rw [HML.out]; exact hx) _ HMR.out; simp only [Nat.zero_add] at y2 y3 y4 y5 y6; rw [HMK.out] at y3; have LMH := Lib.hid LM; clear hb3 LM)
              | fail)
            go_roundw
            case rel => exact ⟨k + 1, h, 0, cap', m, pr.kept, by omega, by go_num, rfl, HML.out, hmok, by rw [HMR.out]; exact hlv, by rw [hso]; rfl, by rw [HMR.out], hh3, LMH.out, B3⟩
            case measure => simp [intOf]; omega
      · have HC := Lib.hid hc
        clear hc
        go_wp2_with (first
          | (go_at_call 10; (with_reducible refine (step_errN x y c _ (Lib.hid (pins_of_lies (Nat.lt_of_lt_of_le hcb (below_alloc wr _).size) (HLC.out.step (below_alloc wr _) hcb))) HCL hlen hok HC hg).mono ?_); rintro e W3 ⟨rfl, hb3⟩; have B3 := pstep (below_more BW _) hb3; have LM := HLC.out.step ((below_alloc wr _).trans (hb3.mono (below_alloc wr _).size)) hcb; have hcb3 := Nat.lt_of_lt_of_le hcb ((below_alloc wr _).trans (hb3.mono (below_alloc wr _).size)).size; have LMH := Lib.hid LM; clear hb3 LM)
          | fail)
        go_roundw
        case rel => exact ⟨k + 1, cb, coff, rc, cur, o, by omega, by go_num, rfl, HCL.out, hok, by rw [HPR.out]; exact hlv, rfl, by rw [HPR.out]; exact hso, hcb3, LMH.out, B3⟩
        case measure => simp [intOf]; omega
    · have hke : k = n := by omega
      subst hke
      clear hkl hk
      have c1 : wr.cell? ⟨cb, coff + r * 7 + 5, none⟩ = some (.bool o) := by rw [← hso]; exact LC r (by rw [hcl]; exact hx) 5 (by decide)
      clear hso
      go_wp2_with (first
        | (go_at_call 18; (with_reducible refine (count_R _ _).mono ?_); rintro e wc ⟨rfl, rfl⟩)
        | fail)
      go_ret
      exact ⟨rfl, BW⟩
theorem lineEdges_walk (v u : Value) (x : Int) (w : World) (h : ArgPins w v) (h2 : ArgOps w u) :
    Calls Try.prog 7 #[v, u, .int .i64 x] w fun e w' => e = .returned (.bool true) ∧ Below w.heap.size w w' := by
  obtain ⟨ad, cap, l, rfl, hlen, HA⟩ := h
  obtain ⟨oad, n, ocap, K, P, rfl, hn, HO⟩ := h2
  have HA' := Lib.hid HA
  by_cases hr : pinsOk l = true
  · by_cases h0 : x < 0
    · exact lineEdges_neg ad oad cap ocap n l x w HA' hlen hr h0
    · by_cases h1 : (l.length : Int) ≤ x
      · exact lineEdges_past ad oad cap ocap n l x w HA' hlen hr (by omega) h1
      · obtain ⟨r, rfl⟩ : ∃ r : Nat, x = r := ⟨x.toNat, by omega⟩
        by_cases hl : (l.getD r pin0).level = false
        · exact lineEdges_main ad oad cap ocap n l K P r w HA' (Lib.hid HO) hlen hn hr (by omega) hl
        · exact lineEdges_kind ad oad cap ocap n l r w HA' hlen hr (by omega) (by simpa using hl)
  · exact lineEdges_bad ad oad cap ocap n l x w HA' hlen (by simpa using hr)
end Go.Proofs.Ytkmjbompbkbfaaa
