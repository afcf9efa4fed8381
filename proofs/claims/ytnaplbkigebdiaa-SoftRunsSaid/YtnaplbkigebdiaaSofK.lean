/- The walk of corebellref.JRun. -/
import Derived.Test.YtnaplbkigebdiaaSofJ
import Derived.Deep.Cut
namespace Go.Proofs.Ytnaplbkigebdiaa
open Go.RowKit Go.Maps

theorem wpList_lookup_own_bool {H : Type} {P : Program} (w : World) {ops : Array Oper} {rest : List Oper} {o : Oper} {a : Act} {Q : Exit → Act → World → Prop}
    (hg : o.guard = none) (m x : Operand) (t : TypeId) (hop : o.op = Op.lookup t m x false)
    (k e : TypeId) (K : Keyed P k) (ht : P.underlying t = some (.map k e)) (he : P.underlying e = some .bool) (hz : (zeroValue e).run P w = .ok (.bool false) w) (b n : Nat) (D : DataW H)
    (hm : a.eval m = .map (some b)) (hown : w.ownsMap P k (plainElem P e) b n D) (key : Value) (kl : Lit) (hx : a.eval x = key) (hkey : keyOf P k key = some kl) (c : Bool) (hc : D.atKey kl (.lit (.bool false)) = .lit (.bool c))
    (hK : wpList P ops Q rest (a.put o.dst (.bool c)) w) :
    wpList P ops Q (o :: rest) a w := by
  refine wpList_plain hg fun K' hK' => ?_
  obtain ⟨v, ps, hrun, hv⟩ := hown.lookup K ht hz (plainElem_bool he false) hkey
  obtain rfl : v = .bool c := by
    rw [hc] at hv
    unfold plainElem at hv
    rw [he] at hv
    cases v <;> simp at hv
    rw [hv.1]
  unfold Oper.wp
  simp [execOp, hop, hm, hx, hrun, Result.andThen]
  exact hK' _ _ hK
/-- What is in memory while JRun runs: the raises' box, the map of what is pending, what ran. -/
structure LpJ (w wx : World) (b4 mb n : Nat) (a2 : Option Addr) (m c2 : Nat) (f : Nat → Bool) (ran : List Nat) (v : Value) (L : Nat) : Prop where
  b : Below w.heap.size w wx
  lt4 : w.heap.size ≤ b4
  ltm : w.heap.size ≤ mb
  x : wx.heap[b4]? = some (.cells #[.slice a2 m c2] 23 (0, 0))
  mp : MapS wx mb n f
  o : wx.ownsRow w.heap.size 3 1 v L (shI.flat (natL ran))
/-- .. and the map of what is raised meanwhile. -/
structure LpK (w wx : World) (b4 mb n : Nat) (a2 : Option Addr) (m c2 : Nat) (f : Nat → Bool) (ran : List Nat) (v : Value) (L mb2 n2 : Nat) (g : Nat → Bool) : Prop where
  j : LpJ w wx b4 mb n a2 m c2 f ran v L
  lt2 : w.heap.size ≤ mb2
  mp2 : MapS wx mb2 n2 g
  ne : ¬ mb = mb2
section
variable {w wx wy : World} {b4 mb n m c2 L mb2 n2 : Nat} {a2 : Option Addr} {f g : Nat → Bool} {ran : List Nat} {v : Value}
theorem LpJ.step (h : LpJ w wx b4 mb n a2 m c2 f ran v L) (hb : Below wx.heap.size wx wy) : LpJ w wy b4 mb n a2 m c2 f ran v L :=
  ⟨pstep h.b hb, h.lt4, h.ltm, heap_step h.x hb, h.mp.step hb, own_step h.o hb⟩
theorem LpJ.turn {n' : Nat} {f' : Nat → Bool} (h : LpJ w wx b4 mb n a2 m c2 f ran v L) (hg : wx.grownBy wy (some mb)) (hm : MapS wy mb n' f') : LpJ w wy b4 mb n' a2 m c2 f' ran v L :=
  ⟨h.b.grown hg h.b.size (fun k hk => by cases hk; exact h.ltm), h.lt4, h.ltm, (hg.block _ (heap_lt h.x) (fun e => mapS_ne h.mp h.x (Option.some.inj e))).trans h.x, hm,
    own_heap h.o fun k _ hk ho => (hg.block k (heap_lt ho) (fun e => own_nemapS h.o h.mp k hk (Option.some.inj e))).trans ho⟩
theorem LpK.step (h : LpK w wx b4 mb n a2 m c2 f ran v L mb2 n2 g) (hb : Below wx.heap.size wx wy) : LpK w wy b4 mb n a2 m c2 f ran v L mb2 n2 g :=
  ⟨h.j.step hb, h.lt2, h.mp2.step hb, h.ne⟩
theorem LpK.turn {n2' : Nat} {g' : Nat → Bool} (h : LpK w wx b4 mb n a2 m c2 f ran v L mb2 n2 g) (hg : wx.grownBy wy (some mb2)) (hm : MapS wy mb2 n2' g') : LpK w wy b4 mb n a2 m c2 f ran v L mb2 n2' g' :=
  ⟨⟨h.j.b.grown hg h.j.b.size (fun k hk => by cases hk; exact h.lt2), h.j.lt4, h.j.ltm, (hg.block _ (heap_lt h.j.x) (fun e => mapS_ne h.mp2 h.j.x (Option.some.inj e))).trans h.j.x,
    h.j.mp.same (hg.block _ h.j.mp.lt (fun e => h.ne (Option.some.inj e))),
    own_heap h.j.o fun k _ hk ho => (hg.block k (heap_lt ho) (fun e => own_nemapS h.j.o h.mp2 k hk (Option.some.inj e))).trans ho⟩, h.lt2, hm, h.ne⟩
theorem LpK.grown {v' : Value} {L' : Nat} {ran' : List Nat} (h : LpK w wx b4 mb n a2 m c2 f ran v L mb2 n2 g) (hg : wx.grownBy wy v.ownBlock) (ho : wy.ownsRow w.heap.size 3 1 v' L' (shI.flat (natL ran'))) : LpK w wy b4 mb n a2 m c2 f ran' v' L' mb2 n2 g :=
  ⟨⟨h.j.b.grown hg h.j.b.size (fun k hk => (own_lt h.j.o hk).1), h.j.lt4, h.j.ltm, (hg.block _ (heap_lt h.j.x) (fun e => own_ne h.j.o h.j.x (by decide) _ e.symm rfl)).trans h.j.x,
    h.j.mp.same (hg.block _ h.j.mp.lt (fun e => own_nemapS h.j.o h.j.mp _ e.symm rfl)), ho⟩, h.lt2, h.mp2.same (hg.block _ h.mp2.lt (fun e => own_nemapS h.j.o h.mp2 _ e.symm rfl)), h.ne⟩
theorem LpK.next (h : LpK w wx b4 mb n a2 m c2 f ran v L mb2 n2 g) : LpJ w wx b4 mb2 n2 a2 m c2 g ran v L :=
  ⟨h.j.b, h.j.lt4, h.lt2, h.j.x, h.mp2, h.j.o⟩
theorem LpJ.more {n' : Nat} (h : LpJ w wx b4 mb n a2 m c2 f ran v L) (hn : n ≤ n') : LpJ w wx b4 mb n' a2 m c2 f ran v L := ⟨h.b, h.lt4, h.ltm, h.x, h.mp.more hn, h.o⟩
theorem LpJ.new (h : LpJ w wx b4 mb n a2 m c2 f ran v L) : LpK w (wx.alloc (.map #[] 0)) b4 mb n a2 m c2 f ran v L wx.heap.size 0 (fun _ => false) :=
  ⟨h.step (below_alloc _ _), h.b.size, map_newS wx, fun e => by have := h.mp.lt; omega⟩
theorem LpK.more {n2' : Nat} (h : LpK w wx b4 mb n a2 m c2 f ran v L mb2 n2 g) (hn : n2 ≤ n2') : LpK w wx b4 mb n a2 m c2 f ran v L mb2 n2' g := ⟨h.j, h.lt2, h.mp2.more hn, h.ne⟩
end
theorem jstart (w : World) (a2 : Option Addr) (m c2 : Nat) : LpJ w ((w.alloc (.cells #[.slice a2 m c2] 23)).alloc (.map #[] 0)) w.heap.size (w.heap.size + 1) 0 a2 m c2 (fun _ => false) [] (.slice none 0 0) 0 := by
  refine ⟨below_two w _ _, Nat.le_refl _, Nat.le_succ _, heap_alloc2_old w _ _, ?_, World.ownsRow_nil _ _ _ _⟩
  have := map_newS (w.alloc (.cells #[.slice a2 m c2] 23))
  simpa using this
section
variable {b4 mb c2 n m : Nat} {a2 : Option Addr} {rs : List RaT} {f : Nat → Bool}
theorem come_zero (w : World) (HX : Hid (w.heap[b4]? = some (.cells #[.slice a2 m c2] 23 (0, 0)))) (HR : Hid (shR.At w a2 c2 rs)) (hm : Hid (rs.length = m)) (HN : Hid (∀ a, a2 = some a → 0 < m → ¬ a.block = mb)) (HM : Hid (MapS w mb n f)) (HU : Hid (RaUp 0 rs)) (hb : n + m < 9223372036854775807) :
    Calls Try.prog 24 #[.int .i64 0, .map (some mb), .pointer (some ⟨b4, 0, none⟩)] w (ComeOut w mb n m rs 0 f) := come_N 0 w HX HR hm HN.out HM HU hb
theorem come_succ (L : Nat) (w : World) (HX : Hid (w.heap[b4]? = some (.cells #[.slice a2 m c2] 23 (0, 0)))) (HR : Hid (shR.At w a2 c2 rs)) (hm : Hid (rs.length = m)) (HN : Hid (∀ a, a2 = some a → 0 < m → ¬ a.block = mb)) (HM : Hid (MapS w mb n f)) (HU : Hid (RaUp 0 rs)) (hb : n + m < 9223372036854775807) :
    Calls Try.prog 24 #[.int .i64 ((L : Int) + 1), .map (some mb), .pointer (some ⟨b4, 0, none⟩)] w (ComeOut w mb n m rs (L + 1) f) := come_N (L + 1) w HX HR hm HN.out HM HU hb
end
theorem ra_block {w : World} {a2 : Option Addr} {c2 m : Nat} {rs : List RaT} (h : shR.At w a2 c2 rs) (hm : rs.length = m) {mb : Nat} (hb : w.heap.size ≤ mb) : ∀ a, a2 = some a → 0 < m → ¬ a.block = mb := fun a e h0 => by
  obtain ⟨b, off, e', hlt, _⟩ := h.2 (by omega)
  rw [e] at e'
  cases e'
  simp only
  omega
set_option maxHeartbeats 4000000 in
set_option maxRecDepth 100000 in
theorem jrun_N {a1 a2 : Option Addr} {c1 c2 n m : Nat} {pd : List Int} {rs : List RaT} (r : Nat) (w : World) (HA : Hid (shI.At w a1 c1 pd)) (hm : Hid (pd.length = n)) (hn : n ≤ 17592186044416) (HR : Hid (shR.At w a2 c2 rs)) (hm2 : Hid (rs.length = m)) (HV : Hid (RtJ pd rs)) :
    Calls Try.prog 11 #[.slice a1 n c1, .slice a2 m c2, .int .i64 r] w fun e w' => ∃ ea ec, e = .returned (.tuple #[.slice ea (runJ pd rs).length ec, .int .i64 (firstJ pd rs r : Int)]) ∧ shI.At w' ea ec (natL (runJ pd rs)) ∧ Below w.heap.size w w' := by
  obtain ⟨i0, hi, hz0, hz1, hz2⟩ := info_parts' info_int
  have hmk := @run_makeMap Try.prog
  have HU := Lib.hid HV.out.2.2
  have hm4 : m ≤ 400 := by rw [← hm2.out]; exact HV.out.2.1
  go_enter Try.func11, Try.ntmps11
  go_upto_region 3 with fail
  have H0 := Lib.hid (jstart w a2 m c2)
  clear hmk
  generalize (w.alloc (.cells #[.slice a2 m c2] 23)).alloc (.map #[] 0) = wz at H0 ⊢
  generalize w.heap.size + 1 = m0 at H0 ⊢
  obtain ⟨b4, hb4⟩ : ∃ b, w.heap.size = b := ⟨_, rfl⟩
  have HB4 : Hid (LpJ w wz b4 m0 0 a2 m c2 (fun _ => false) [] (.slice none 0 0) 0) := Lib.hid (hb4 ▸ H0.out)
  rw [hb4]
  clear H0 hb4
  go_wp2_with fail
  go_loopw [20] (fun i wr => ∃ k : Nat, k ≤ n ∧ i = .int .i64 k ∧ Hid (LpJ w wr b4 m0 k a2 m c2 (pendK pd k) [] (.slice none 0 0) 0)) (fun i _ => n - (intOf i).toNat)
  case atStart => exact ⟨0, Nat.zero_le _, rfl, Lib.hid (by rw [pend_zero]; exact HB4.out)⟩
  case round =>
    clear HB4
    obtain ⟨k, hk, rfl, HJ⟩ := hrel
    by_cases hlt : k < n
    · obtain ⟨x, hx⟩ : ∃ x, pd[k]? = some x := ⟨pd[k]'(by rw [hm.out]; exact hlt), List.getElem?_eq_getElem _⟩
      have h7 := in7_at HV.out.1 hx
      obtain ⟨y, rfl⟩ : ∃ y : Nat, x = y := ⟨x.toNat, by omega⟩
      have hy8 : y < 8 := by omega
      obtain ⟨b, off, rfl, hb, e0⟩ := at_int HA.out hx
      have g0 := (HJ.out.b.cell (p := ⟨b, off + k, none⟩) hb).trans e0
      have hbr : b < wr.heap.size := Nat.lt_of_lt_of_le hb HJ.out.b.size
      have WFs : (Lit.int .i64 (y : Int)).wf = true := WalkArith.wf_i64 (by omega)
      obtain ⟨D, o1, T1⟩ := HJ.out.mp
      have O1 := Lib.hid o1
      have HT1 := Lib.hid T1
      have HPN := Lib.hid (pend_next hx)
      have hnm : k < maxLen := by unfold maxLen; omega
      clear o1 T1 hx e0 h7
      go_wp2_with (first
        | (at_mapUpdate; refine wpList_mapUpdate_own _ rfl _ _ _ 50 rfl 3 4 lawI Try.underlying50 _ m0 k D rfl O1.out hnm _ _ (.int .i64 (y : Int)) rfl rfl (keyOf_int_mk Try.underlying3 WFs) (.lit (.bool true)) [] (plainElem_bool Try.underlying4 true) ?_; intro w5 hown5 hg5; have J5 : Hid (LpJ w w5 b4 m0 (k + 1) a2 m c2 (pendK pd (k + 1)) [] (.slice none 0 0) 0) := Lib.hid (HJ.out.turn hg5 ⟨_, hown5, by rw [← HPN.out]; exact HT1.out.put O1.out.isMap hy8⟩); clear hown5 hg5)
        | fail)
      go_roundw
      case rel => exact ⟨k + 1, by omega, by go_num, J5⟩
      case measure => simp [intOf]; omega
    · obtain rfl : k = n := by omega
      clear hlt hk
      have MJ := Lib.hid HJ.out.mp
      have XJ := Lib.hid HJ.out.x
      have RJ := Lib.hid (HR.out.step HJ.out.b)
      have NJ := Lib.hid (ra_block HR.out hm2.out HJ.out.ltm)
      have hbd : k + m < 9223372036854775807 := by omega
      generalize wr = wp at *
      go_wp2_with (first
        | (go_at_call 24; (with_reducible refine (come_zero _ XJ RJ hm2 NJ MJ HU hbd).mono ?_); rintro e w6 ⟨rfl, h6, g6⟩; have J6 : Hid (LpJ w w6 b4 m0 (k + m) a2 m c2 (rdJ pd rs 0).now (rdJ pd rs 0).ran (.slice none 0 0) 0) := Lib.hid (HJ.out.turn g6 (by rw [pend_all hm.out] at h6; exact h6)); clear h6 g6)
        | fail)
      clear MJ XJ RJ NJ HJ
      have hkm : k + m ≤ 17592186044816 := by omega
      generalize k + m = nn0 at J6 hkm
      clear wr hbd
      go_loopw [8, 11, 13, 14] (fun nv rv av i wr => ∃ (k mb nn rc L x : Nat) (ra : Option Addr), i = .int .i64 k ∧ nv = .map (some mb) ∧ rv = .slice ra L rc ∧ av = .int .i64 x ∧ k ≤ 408 ∧ nn ≤ 17592186044816 ∧ Hid (LpJ w wr b4 mb nn a2 m c2 (rdJ pd rs k).now (rdJ pd rs k).ran (.slice ra L rc) L) ∧ Hid ((rdJ pd rs (min k r)).ran.length = x) ∧ Hid (∀ j, j < k → ¬ EmptyJ (rdJ pd rs j).now) ∧ Hid ((rdJ pd rs k).ran.length = L)) (fun _ _ _ i _ => 409 - (intOf i).toNat)
      case atStart => exact ⟨0, m0, nn0, 0, 0, 0, none, rfl, rfl, rfl, rfl, by omega, hkm, J6, Lib.hid (by rw [Nat.zero_min]; rfl), Lib.hid fun j hj => by omega, Lib.hid rfl⟩
      case round =>
        clear J6 hkm
        obtain ⟨q, mb, nn, rc, L, x, ra, rfl, rfl, rfl, rfl, hq, hnn, HJ, HX, HE, HL⟩ := hrel
        obtain ⟨D, o1, T1⟩ := HJ.out.mp
        have O1 := Lib.hid o1
        have HT1 := Lib.hid T1
        clear o1 T1
        by_cases he : EmptyJ (rdJ pd rs q).now
        · have hsz : Maps.size D = 0 := HT1.out.sz.2 he
          have HO := HJ.out.o
          have e1 := run_of HV.out he
          have e2 : x = firstJ pd rs r := by rw [← HX.out]; exact first_of he
          have e3 : L = (runJ pd rs).length := by rw [← HL.out, e1]
          rw [e1] at HO
          subst e2 e3
          have HOO := Lib.hid HO
          have HBB := Lib.hid HJ.out.b
          have hlen : (Builtin.len_ #[50] 3 #[.map (some mb)]).run Try.prog wr = .ok (.int .i64 0) wr := by
            rw [O1.out.len Try.underlying50, hsz]; rfl
          clear HO e1 he HX HL HJ HE
          go_wp2_with fail
          refine bodyPost_ret (v := .tuple #[.slice ra (runJ pd rs).length rc, .int .i64 (firstJ pd rs r : Int)]) (by simp [results, Try.results11, go_sem]) rfl ?_
          exact ⟨ra, rc, rfl, Shape.At.own (S := shI) HOO.out (natL_len _), HBB.out⟩
        · have hsz : decide (0 < Maps.size D) = true := decide_eq_true (by
            have : ¬ Maps.size D = 0 := fun z => he (HT1.out.sz.1 z)
            omega)
          have HE1 := Lib.hid (show ∀ j, j < q + 1 → ¬ EmptyJ (rdJ pd rs j).now from fun j hj => by
            by_cases z : j = q
            · rw [z]; exact he
            · exact HE.out j (by omega))
          have hq1 : q + 1 ≤ 408 := Nat.le_trans (rd_at_least (q + 1) HE1.out) (rd_len HV.out (q + 1))
          have hmk := @run_makeMap Try.prog
          have HK0 := Lib.hid HJ.out.new
          have HSL := Lib.hid (fun j hj => scan_len9 HV.out q j hj)
          have HSN := Lib.hid (rd_next pd rs q)
          have HSS := Lib.hid (rd_succ pd rs q)
          have HK1 : Hid (LpK w (wr.alloc (.map #[] 0)) b4 mb nn a2 m c2 (rdJ pd rs q).now (scanJ (rJ rs) (rdJ pd rs q) 0).ran (.slice ra L rc) L wr.heap.size (0 * 400) (scanJ (rJ rs) (rdJ pd rs q) 0).next) := Lib.hid (by
            show LpK w _ b4 mb nn a2 m c2 _ (rdJ pd rs q).ran _ L _ 0 (rdJ pd rs q).next
            rw [HSN.out]; exact HK0.out)
          have HL1 : Hid ((scanJ (rJ rs) (rdJ pd rs q) 0).ran.length = L) := HL
          have hwm : w.heap.size ≤ wr.heap.size := HJ.out.b.size
          have HOM := Lib.hid O1.out.isMap
          have hlen : (Builtin.len_ #[50] 3 #[.map (some mb)]).run Try.prog wr = .ok (.int .i64 (Maps.size D)) wr := O1.out.len Try.underlying50 _
          clear he HE HK0 HJ HL HSN
          go_upto_region 15 with fail
          generalize rdJ pd rs q = st at HK1 HL1 HSL HSS HT1
          clear O1 hmk hlen HOM HT1 hsz
          generalize wr.alloc (.map #[] 0) = wz2 at HK1 ⊢
          generalize wr.heap.size = mb2 at HK1 hwm ⊢
          clear wr
          go_wp2_with fail
          go_loopw [11, 37] (fun rv i wr => ∃ (s rc L : Nat) (ra : Option Addr), s ≤ 8 ∧ i = .int .i64 s ∧ rv = .slice ra L rc ∧ Hid (LpK w wr b4 mb nn a2 m c2 st.now (scanJ (rJ rs) st s).ran (.slice ra L rc) L mb2 (s * 400) (scanJ (rJ rs) st s).next) ∧ Hid ((scanJ (rJ rs) st s).ran.length = L)) (fun _ i _ => 8 - (intOf i).toNat)
          case atStart => exact ⟨0, rc, L, ra, by omega, rfl, rfl, HK1, HL1⟩
          case round =>
            clear HK1 HL1
            obtain ⟨s, rc, L, ra, hs, rfl, rfl, HK, HL⟩ := hrel
            by_cases hlt : s < 8
            · have hs8d : decide (s < 8) = true := decide_eq_true hlt
              have WFs : (Lit.int .i64 (s : Int)).wf = true := WalkArith.wf_i64 (by omega)
              obtain ⟨D, o1, T1⟩ := HK.out.j.mp
              have O1 := Lib.hid o1
              have hgot := T1.got hlt
              clear o1 T1
              cases hnow : st.now s with
              | false =>
                rw [hnow] at hgot
                have HG := Lib.hid hgot
                have HK2 : Hid (LpK w wr b4 mb nn a2 m c2 st.now (scanJ (rJ rs) st (s + 1)).ran (.slice ra L rc) L mb2 ((s + 1) * 400) (scanJ (rJ rs) st (s + 1)).next) := Lib.hid (by rw [scan_no hnow]; exact HK.out.more (by omega))
                have HL2 : Hid ((scanJ (rJ rs) st (s + 1)).ran.length = L) := Lib.hid (by rw [scan_no hnow]; exact HL.out)
                clear hnow hgot
                go_wp2_with (first
                  | (at_lookup; refine wpList_lookup_own_bool _ rfl _ _ 50 rfl 3 4 lawI Try.underlying50 Try.underlying4 (zeroB _) mb nn D rfl O1.out _ (.int .i64 (s : Int)) rfl (keyOf_int_mk Try.underlying3 WFs) false HG.out ?_)
                  | fail)
                go_roundw
                case rel => exact ⟨s + 1, rc, L, ra, by omega, by go_num, rfl, HK2, HL2⟩
                case measure => simp [intOf]; omega
              | true =>
                rw [hnow] at hgot
                have HG := Lib.hid hgot
                have HNW := Lib.hid hnow
                have hL9 : L ≤ 408 := by rw [← HL.out]; exact HSL.out s hs
                have HLN : Hid ((natL (scanJ (rJ rs) st s).ran).length = L) := Lib.hid (by rw [natL_len, HL.out])
                have HA1 := Lib.hid (HK.out.step (below_alloc wr (.cells #[.int .i64 (s : Int)] 3)))
                have HLI := Lib.hid (Shape.At.lit (S := shI) (cap := 1) [(s : Int)] (heap_alloc_new wr (.cells #[.int .i64 (s : Int)] 3)))
                have hsz : w.heap.size ≤ (wr.alloc (.cells #[.int .i64 (s : Int)] 3)).heap.size := HA1.out.j.b.size
                clear hnow hgot
                go_wp2_with (first
                  | (at_lookup; refine wpList_lookup_own_bool _ rfl _ _ 50 rfl 3 4 lawI Try.underlying50 Try.underlying4 (zeroB _) mb nn D rfl O1.out _ (.int .i64 (s : Int)) rfl (keyOf_int_mk Try.underlying3 WFs) true HG.out ?_)
                  | (at_builtin; refine wpList_append_n shI rfl _ _ 22 rfl w.heap.size 3 i0 _ 8 Try.underlying22 hi hz0 hz1 hz2 rfl (.slice ra L rc) L (natL (scanJ (rJ rs) st s).ran) _ HLN rfl HA1.out.j.o (some ⟨wr.heap.size, 0, none⟩) 1 1 rfl (Lib.hid rfl) HLI.out (by unfold maxLen; omega) (by omega) hsz ?_)
                  | fail)
                intro ra3 rc3 w3 own3 grow3 _
                have K3 : Hid (LpK w w3 b4 mb nn a2 m c2 st.now ((scanJ (rJ rs) st s).ran ++ [s]) (.slice ra3 (L + 1) rc3) (L + 1) mb2 (s * 400) (scanJ (rJ rs) st s).next) := Lib.hid (HA1.out.grown grow3 (by rw [natL_app]; exact own3))
                have M3 := Lib.hid K3.out.mp2
                have X3 := Lib.hid K3.out.j.x
                have R3 := Lib.hid (HR.out.step K3.out.j.b)
                have N3 := Lib.hid (ra_block HR.out hm2.out K3.out.lt2)
                have hb3 : s * 400 + m < 9223372036854775807 := by omega
                clear own3 grow3 HA1 HLI hsz O1
                go_wp2_with (first
                  | (go_at_call 24; (with_reducible refine (come_succ L _ X3 R3 hm2 N3 M3 HU hb3).mono ?_); rintro e w6 ⟨rfl, h6, g6⟩; have K6 := Lib.hid (K3.out.turn g6 h6); clear h6 g6)
                  | fail)
                have HK2 : Hid (LpK w w6 b4 mb nn a2 m c2 st.now (scanJ (rJ rs) st (s + 1)).ran (.slice ra3 (L + 1) rc3) (L + 1) mb2 ((s + 1) * 400) (scanJ (rJ rs) st (s + 1)).next) := Lib.hid (by
                  have h := K6.out.more (n2' := (s + 1) * 400) (by omega)
                  rw [← HL.out] at h ⊢
                  rw [scan_yes HNW.out]
                  exact h)
                have HL2 : Hid ((scanJ (rJ rs) st (s + 1)).ran.length = L + 1) := Lib.hid (by rw [scan_yes HNW.out]; simp [HL.out])
                go_roundw
                case rel => exact ⟨s + 1, rc3, L + 1, ra3, by omega, by go_num, rfl, HK2, HL2⟩
                case measure => simp [intOf]; omega
            · obtain rfl : s = 8 := by omega
              have HJN : Hid (LpJ w wr b4 mb2 (8 * 400) a2 m c2 (rdJ pd rs (q + 1)).now (rdJ pd rs (q + 1)).ran (.slice ra L rc) L) := Lib.hid (by rw [HSS.out]; exact HK.out.next)
              have HLL : Hid ((rdJ pd rs (q + 1)).ran.length = L) := Lib.hid (by rw [HSS.out]; exact HL.out)
              clear hlt hs
              by_cases hqr : q < r
              · have hqd : decide (q < r) = true := decide_eq_true hqr
                have HX1 : Hid ((rdJ pd rs (min (q + 1) r)).ran.length = L) := Lib.hid (by rw [Nat.min_eq_left (by omega)]; exact HLL.out)
                go_wp2_with fail
                go_roundw
                case rel => exact ⟨q + 1, mb2, 8 * 400, rc, L, L, ra, by go_num, rfl, rfl, rfl, hq1, by omega, HJN, HX1, HE1, HLL⟩
                case measure => simp [intOf]; omega
              · have hqd : decide (q < r) = false := decide_eq_false hqr
                have HX1 : Hid ((rdJ pd rs (min (q + 1) r)).ran.length = x) := Lib.hid (by rw [← HX.out, Nat.min_eq_right (by omega), Nat.min_eq_right (by omega)])
                go_wp2_with fail
                go_roundw
                case rel => exact ⟨q + 1, mb2, 8 * 400, rc, L, x, ra, by go_num, rfl, rfl, rfl, hq1, by omega, HJN, HX1, HE1, HLL⟩
                case measure => simp [intOf]; omega
end Go.Proofs.Ytnaplbkigebdiaa
