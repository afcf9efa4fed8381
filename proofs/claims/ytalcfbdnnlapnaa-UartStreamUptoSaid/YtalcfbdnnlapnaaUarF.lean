/- Package uart: the walk of Play. -/
import Derived.Test.YtalcfbdnnlapnaaUarE
namespace Go.Proofs.Ytalcfbdnnlapnaa
open Go.RowKit

/-- Two slices lie apart. -/
def Ap (v v' : Value) : Prop := ∀ g, v.ownBlock = some g → ¬ v'.ownBlock = some g
theorem que_four {w : World} {base n e : Nat} {v : Value} {l : List UInt8} (h : Que shB w base e v n l) {B : Nat} (hB : ∀ g, v.ownBlock = some g → g ≠ B) (x y z u : Value) : Que shB ((((w.setCell ⟨B, 0, none⟩ x).setCell ⟨B, 1, none⟩ y).setCell ⟨B, 2, none⟩ z).setCell ⟨B, 3, none⟩ u) base e v n l :=
  que_set (a := ⟨B, 3, none⟩) (que_set (a := ⟨B, 2, none⟩) (que_set (a := ⟨B, 1, none⟩) (que_set (a := ⟨B, 0, none⟩) h hB x) hB y) hB z) hB u
/-- What is in memory while Play runs: two queues, the device's box, what was read, what was sent. -/
structure LpU (w wx : World) (U : Nat) (R : Array Value) (iv ov rv sv : Value) (n m a b : Nat) (inn out rd sd : List UInt8) : Prop where
  q : DevQ w wx iv ov n m inn out
  lt : w.heap.size < U
  z : wx.heap[w.heap.size]? = some (.cells #[.slice none 0 0, .slice none 0 0, .int .i64 0, .bool false] tU (0, 0))
  u : wx.heap[U]? = some (.cells R tU (0, 0))
  r : Que shB wx w.heap.size tB rv a rd
  s : Que shB wx w.heap.size tB sv b sd
  ri : Ap rv iv
  ro : Ap rv ov
  si : Ap sv iv
  so : Ap sv ov
  rs : Ap rv sv
section
variable {w wx wy : World} {U : Nat} {R : Array Value} {iv ov rv sv : Value} {n m a b : Nat} {inn out rd sd : List UInt8}
theorem LpU.step (h : LpU w wx U R iv ov rv sv n m a b inn out rd sd) (hb : Below wx.heap.size wx wy) : LpU w wy U R iv ov rv sv n m a b inn out rd sd :=
  ⟨h.q.step hb, h.lt, heap_step h.z hb, heap_step h.u hb, que_step h.r hb, que_step h.s hb, h.ri, h.ro, h.si, h.so, h.rs⟩
theorem ap_fr {v iv iv' : Value} {n : Nat} {l : List UInt8} {base : Nat} (h : Ap v iv) (hv : Que shB wx base tB v n l) (hf : Fr wx iv iv') : Ap v iv' := fun g h1 h2 => by
  rcases hf g h2 with e | e
  · exact h g h1 e
  · have := (que_lt hv h1).2; omega
theorem fr_ap {v iv iv' : Value} {n : Nat} {l : List UInt8} {base : Nat} (h : Ap iv v) (hv : Que shB wx base tB v n l) (hf : Fr wx iv iv') : Ap iv' v := fun g h1 h2 => by
  rcases hf g h1 with e | e
  · exact h g e h2
  · have := (que_lt hv h2).2; omega
/-- Behind perform. -/
theorem LpU.perf {iv' ov' : Value} {n' m' : Nat} {inn' out' : List UInt8} (h : LpU w wx U R iv ov rv sv n m a b inn out rd sd) (hq : DevQ w wy iv' ov' n' m' inn' out') (hk : Kp wx wy iv.ownBlock ov.ownBlock) (hi : Fr wx iv iv') (ho : Fr wx ov ov') : LpU w wy U R iv' ov' rv sv n' m' a b inn' out' rd sd :=
  ⟨hq, h.lt, (hk.blk _ (heap_lt h.z) (que_apart h.q.i _ _ _ h.z (by decide)) (que_apart h.q.o _ _ _ h.z (by decide))).trans h.z,
    (hk.blk _ (heap_lt h.u) (que_apart h.q.i _ _ _ h.u (by decide)) (que_apart h.q.o _ _ _ h.u (by decide))).trans h.u,
    que_heap h.r (fun g o hg ho' => (hk.blk g (heap_lt ho') (h.ri g hg) (h.ro g hg)).trans ho'),
    que_heap h.s (fun g o hg ho' => (hk.blk g (heap_lt ho') (h.si g hg) (h.so g hg)).trans ho'),
    ap_fr h.ri h.r hi, ap_fr h.ro h.r ho, ap_fr h.si h.s hi, ap_fr h.so h.s ho, h.rs⟩
/-- The device's box is written. -/
theorem LpU.put {x y z u : Value} (h : LpU w wx U #[x, y, z, u] iv ov rv sv n m a b inn out rd sd) (x' y' z' u' : Value) :
    LpU w ((((wx.setCell ⟨U, 0, none⟩ x').setCell ⟨U, 1, none⟩ y').setCell ⟨U, 2, none⟩ z').setCell ⟨U, 3, none⟩ u') U #[x', y', z', u'] iv ov rv sv n m a b inn out rd sd := by
  have n1 := que_ne h.r h.u (by decide)
  have n2 := que_ne h.s h.u (by decide)
  have hlt := h.lt
  exact ⟨h.q.four (by omega) (que_ne h.q.i h.u (by decide)) (que_ne h.q.o h.u (by decide)) _ _ _ _, h.lt, (four_other wx x' y' z' u' (by omega)).trans h.z, four_set h.u,
    que_set (que_set (que_set (que_set h.r n1 _) n1 _) n1 _) n1 _, que_set (que_set (que_set (que_set h.s n2 _) n2 _) n2 _) n2 _, h.ri, h.ro, h.si, h.so, h.rs⟩
/-- One more was read. -/
theorem LpU.read {rv' : Value} {a' : Nat} {rd' : List UInt8} (h : LpU w wx U R iv ov rv sv n m a b inn out rd sd) (hg : wx.grownBy wy rv.ownBlock) (hq : Que shB wy w.heap.size tB rv' a' rd') (hf : Fr wx rv rv') : LpU w wy U R iv ov rv' sv n m a' b inn out rd' sd :=
  ⟨⟨h.q.b.grown hg h.q.b.size (fun k hk => (que_lt h.r hk).1), que_kept h.q.i hg (fun g h1 e => h.ri g e.symm h1), que_kept h.q.o hg (fun g h1 e => h.ro g e.symm h1), h.q.ap⟩, h.lt,
    (hg.block _ (heap_lt h.z) (fun e => que_apart h.r _ _ _ h.z (by decide) e.symm)).trans h.z, (hg.block _ (heap_lt h.u) (fun e => que_apart h.r _ _ _ h.u (by decide) e.symm)).trans h.u,
    hq, que_kept h.s hg (fun g h1 e => h.rs g e.symm h1), fr_ap h.ri h.q.i hf, fr_ap h.ro h.q.o hf, h.si, h.so, fr_ap h.rs h.s hf⟩
/-- One more was sent. -/
theorem LpU.sent {sv' : Value} {b' : Nat} {sd' : List UInt8} (h : LpU w wx U R iv ov rv sv n m a b inn out rd sd) (hg : wx.grownBy wy sv.ownBlock) (hq : Que shB wy w.heap.size tB sv' b' sd') (hf : Fr wx sv sv') : LpU w wy U R iv ov rv sv' n m a b' inn out rd sd' :=
  ⟨⟨h.q.b.grown hg h.q.b.size (fun k hk => (que_lt h.s hk).1), que_kept h.q.i hg (fun g h1 e => h.si g e.symm h1), que_kept h.q.o hg (fun g h1 e => h.so g e.symm h1), h.q.ap⟩, h.lt,
    (hg.block _ (heap_lt h.z) (fun e => que_apart h.s _ _ _ h.z (by decide) e.symm)).trans h.z, (hg.block _ (heap_lt h.u) (fun e => que_apart h.s _ _ _ h.u (by decide) e.symm)).trans h.u,
    que_kept h.r hg (fun g h1 e => h.rs g h1 e.symm), hq, h.ri, h.ro, fr_ap h.si h.q.i hf, fr_ap h.so h.q.o hf, ap_fr h.rs h.r hf⟩
end
theorem reads_len : ∀ (ops : List UaT) (s : StB), (readsB s ops).length ≤ ops.length
  | [], _ => Nat.le_refl _
  | o :: r, s => by
    have h := reads_len r (stepB s o)
    rw [readsB, List.length_append, List.length_cons]
    have : (readB s o).length ≤ 1 := by unfold readB; split <;> simp
    omega
theorem sents_len : ∀ (ops : List UaT) (s : StB), (sentsB s ops).length ≤ ops.length
  | [], _ => Nat.le_refl _
  | o :: r, s => by
    have h := sents_len r (stepB s o)
    rw [sentsB, List.length_append, List.length_cons]
    have : (sentB s o).length ≤ 1 := by unfold sentB; split <;> simp
    omega
/-- What Play answers. -/
def PlayOut (w : World) (a b n m lost : Nat) (q : Bool) (rd sd inn out : List UInt8) (e : Ending) (w' : World) : Prop :=
  ∃ ra rc sa sc ia ic oa oc, e = .returned (.tuple #[.slice ra a rc, .slice sa b sc, .agg #[.slice ia n ic, .slice oa m oc, .int .i64 (lost : Nat), .bool q]]) ∧ shB.At w' ra rc rd ∧ shB.At w' sa sc sd ∧ shB.At w' ia ic inn ∧ shB.At w' oa oc out ∧ Below w.heap.size w w'
set_option maxHeartbeats 2000000 in
set_option maxRecDepth 100000 in
theorem play_W {ad : Option Addr} {cap n : Nat} {ops : List UaT} (w : World) (HA : Hid (shO.At w ad cap ops)) (hm : Hid (ops.length = n)) (hn : n ≤ 8796093022208) (s : StB) (rd sd : List UInt8) (hs : Hid (runB newB ops = s)) (hrd : Hid (readsB newB ops = rd)) (hsd : Hid (sentsB newB ops = sd)) (A B N M : Nat) (hA : Hid (rd.length = A)) (hB : Hid (sd.length = B)) (hN : Hid (s.inn.length = N)) (hM : Hid (s.out.length = M)) :
    Calls Try.prog 13 #[.slice ad n cap] w (PlayOut w A B N M s.lost (decide (0 < N)) rd sd s.inn s.out) := by
  obtain ⟨i0, hi, hz0, hz1, hz2⟩ := info_parts' info_byte
  have H0 : LpU w ((w.alloc (.cells #[.slice none 0 0, .slice none 0 0, .int .i64 0, .bool false] 24)).alloc (.cells #[.slice none 0 0, .slice none 0 0, .int .i64 0, .bool false] 24)) (w.heap.size + 1) #[.slice none 0 0, .slice none 0 0, .int .i64 0, .bool false] (.slice none 0 0) (.slice none 0 0) (.slice none 0 0) (.slice none 0 0) 0 0 0 0 [] [] [] [] :=
    ⟨⟨below_two w _ _, que_nil _ _ _ _, que_nil _ _ _ _, (fun g hg => by cases hg)⟩, Nat.lt_succ_self _, heap_step (heap_alloc_new w _) (below_alloc _ _), heap_alloc2_new w _ _, que_nil _ _ _ _, que_nil _ _ _ _, (fun g hg => by cases hg), (fun g hg => by cases hg), (fun g hg => by cases hg), (fun g hg => by cases hg), (fun g hg => by cases hg)⟩
  have H2 := Lib.hid H0
  clear H0
  go_enter Try.func13, Try.ntmps13
  go_wp2_with fail
  generalize (w.alloc (.cells #[.slice none 0 0, .slice none 0 0, .int .i64 0, .bool false] 24)).alloc (.cells #[.slice none 0 0, .slice none 0 0, .int .i64 0, .bool false] 24) = wz at H2 ⊢
  generalize w.heap.size + 1 = U at H2 ⊢
  go_loopw [6, 7, 14] (fun rv sv i wr => ∃ (k n1 m1 a b : Nat) (ia : Option Addr) (ic : Nat) (oa : Option Addr) (oc : Nat) (ra : Option Addr) (rc : Nat) (sa : Option Addr) (sc : Nat), k ≤ n ∧ i = .int .i64 k ∧ rv = .slice ra a rc ∧ sv = .slice sa b sc ∧ Hid (LpU w wr U #[.slice ia n1 ic, .slice oa m1 oc, .int .i64 ((runB newB (ops.take k)).lost : Nat), .bool (decide (0 < n1))] (.slice ia n1 ic) (.slice oa m1 oc) (.slice ra a rc) (.slice sa b sc) n1 m1 a b (runB newB (ops.take k)).inn (runB newB (ops.take k)).out (readsB newB (ops.take k)) (sentsB newB (ops.take k)))) (fun _ _ i _ => n - (intOf i).toNat)
  case atStart => exact ⟨0, 0, 0, 0, 0, none, 0, none, 0, none, 0, none, 0, Nat.zero_le _, rfl, rfl, rfl, H2⟩
  case round =>
    clear H2
    obtain ⟨k, n1, m1, a, b, ia, ic, oa, oc, ra, rc, sa, sc, hk, rfl, rfl, rfl, HL⟩ := hrel
    by_cases hlt : k < n
    · obtain ⟨o, ho⟩ : ∃ o, ops[k]? = some o := ⟨ops[k]'(by rw [hm.out]; exact hlt), List.getElem?_eq_getElem _⟩
      have HNR := Lib.hid (runB_next ho newB)
      have HND := Lib.hid (readsB_next ho newB)
      have HNS := Lib.hid (sentsB_next ho newB)
      have HGD := Lib.hid (good_runB (ops := ops.take k) good_newB)
      have hla := reads_len (ops.take k) newB
      have hlb := sents_len (ops.take k) newB
      rw [List.length_take, hm.out, Nat.min_eq_left hk] at hla hlb
      obtain ⟨bb, off, rfl, hb, e0, e1⟩ := at_op HA.out ho
      have g0 := (HL.out.q.b.cell (p := ⟨bb, off + k * 2, none⟩) hb).trans e0
      have g1 := (HL.out.q.b.cell (p := ⟨bb, off + k * 2 + 1, none⟩) hb).trans e1
      have hbr : bb < wr.heap.size := Nat.lt_of_lt_of_le hb HL.out.q.b.size
      obtain ⟨st, hst⟩ : ∃ st, runB newB (ops.take k) = st := ⟨_, rfl⟩
      obtain ⟨rk, hrk⟩ : ∃ rk, readsB newB (ops.take k) = rk := ⟨_, rfl⟩
      obtain ⟨sk, hsk⟩ : ∃ sk, sentsB newB (ops.take k) = sk := ⟨_, rfl⟩
      rw [hst, hrk, hsk] at HL
      rw [hst] at HNR HND HNS HGD
      rw [hrk] at HND hla
      rw [hsk] at HNS hlb
      have hn1 := que_len HL.out.q.i
      have hm1 := que_len HL.out.q.o
      have ha1 := que_len HL.out.r
      have hb1 := que_len HL.out.s
      rw [ha1] at hla
      rw [hb1] at hlb
      have h16n : n1 ≤ 16 := by rw [← hn1]; exact HGD.out.inn
      have h16m : m1 ≤ 16 := by rw [← hm1]; exact HGD.out.out
      have HN1 := Lib.hid hn1
      have HM1 := Lib.hid hm1
      obtain ⟨ls, hls⟩ : ∃ ls, st.lost = ls := ⟨_, rfl⟩
      have hll : ls ≤ 1099511627776 := by rw [← hls]; exact HGD.out.lost
      have HLS := Lib.hid hls
      rw [hls] at HL
      obtain ⟨x, hx⟩ : ∃ x, errB st o = x := ⟨_, rfl⟩
      have HX := Lib.hid hx
      have HU : Hid (errU n1 m1 ls o.k = x) := Lib.hid (by rw [← hx, errU_eq, hn1, hm1, hls])
      obtain ⟨kd, by'⟩ := o
      simp only at g0 g1 HU
      have L1 := Lib.hid (HL.out.step (below_alloc wr (.cells #[.int .i64 kd, .int .u8 (ub by')] 26)))
      have O1 := Lib.hid (heap_alloc_new wr (.cells #[.int .i64 kd, .int .u8 (ub by')] 26))
      have U1 := four_at L1.out.u
      have HAB := Lib.hid hla
      have hUr := heap_lt HL.out.u
      clear e0 e1 ho hst hrk hsk hn1 hm1 ha1 hb1 hls hx
      by_cases hx0 : x = 0
      · subst hx0
        have HSTB : Hid (stepB st ⟨kd, by'⟩ = doB st ⟨kd, by'⟩) := Lib.hid (by unfold stepB; rw [if_pos HX.out])
        obtain ⟨s', hs'⟩ : ∃ s', doB st ⟨kd, by'⟩ = s' := ⟨_, rfl⟩
        obtain ⟨n2, hn2⟩ : ∃ n2, s'.inn.length = n2 := ⟨_, rfl⟩
        obtain ⟨m2, hm2⟩ : ∃ m2, s'.out.length = m2 := ⟨_, rfl⟩
        obtain ⟨l2, hl2⟩ : ∃ l2, s'.lost = l2 := ⟨_, rfl⟩
        obtain ⟨y, hy⟩ : ∃ y, byteB st ⟨kd, by'⟩ = y := ⟨_, rfl⟩
        obtain ⟨q, hq⟩ : ∃ q, decide (0 < n2) = q := ⟨_, rfl⟩
        have RP := Lib.hid (fun (X : World) (hX : Hid (DevQ w X (.slice ia n1 ic) (.slice oa m1 oc) n1 m1 st.inn st.out)) => perform_N (w0 := w) (w := X) ⟨kd, by'⟩ n1 m1 n2 m2 ls HLS.out HGD.out HX.out HN1 HM1 hX (Lib.hid (by rw [hs', hn2])) (Lib.hid (by rw [hs', hm2])) (decide (0 < n1)) l2 (by rw [hs', hl2]) y hy q hq s'.inn (by rw [hs']) s'.out (by rw [hs']))
        have HSP := Lib.hid hs'
        have HYP := Lib.hid hy
        have HQP := Lib.hid hq
        have HL2 := Lib.hid hl2
        clear hs' hn2 hm2 hl2 hy hq
        simp only at RP
        go_upto_region 8 with (first
          | (go_at_call 17; (with_reducible refine (check_W _ _ n1 ic m1 oc ls _ kd (ub by') _ h16n h16m hll 0 HU).mono ?_); rintro e w2 ⟨rfl, hb2⟩; have L2 := Lib.hid (L1.out.step hb2); have O2 := Lib.hid (heap_step O1.out hb2); have U2 := four_at L2.out.u; have T2 := pair_at O2.out; have i2 := heap_lt L2.out.u; have j2 := heap_lt O2.out; clear hb2)
          | (go_at_call 19; (with_reducible refine (RP.out _ (Lib.hid L2.out.q)).mono ?_); rintro e w5 ⟨pa, pc, qa, qc, rfl, d5, k5, f5, f6⟩; have O5 := Lib.hid ((k5.blk _ (heap_lt O2.out) (que_apart L2.out.q.i _ _ _ O2.out (by decide)) (que_apart L2.out.q.o _ _ _ O2.out (by decide))).trans O2.out); have L5 := Lib.hid (L2.out.perf d5 k5 f5 f6); clear d5 k5 f5 f6)
          | fail)
        have L6 := Lib.hid (L5.out.step (below_alloc w5 (.cells #[.slice pa n2 pc, .slice qa m2 qc, .int .i64 (l2 : Nat), .bool q] 24)))
        have O6 := Lib.hid (heap_step O5.out (below_alloc w5 (.cells #[.slice pa n2 pc, .slice qa m2 qc, .int .i64 (l2 : Nat), .bool q] 24)))
        have T6 := Lib.hid (heap_alloc_new w5 (.cells #[.slice pa n2 pc, .slice qa m2 qc, .int .i64 (l2 : Nat), .bool q] 24))
        generalize w5.alloc (.cells #[.slice pa n2 pc, .slice qa m2 qc, .int .i64 (l2 : Nat), .bool q] 24) = w6 at L6 O6 T6 ⊢
        generalize w5.heap.size = T at T6 ⊢
        have C6 := four_at T6.out
        have U6 := four_at L6.out.u
        have F6 := fun i => frozen_of_row w6 U i _ _ L6.out.u
        have i6 := heap_lt L6.out.u
        have j6 := heap_lt T6.out
        clear U1 U2 T2 i2 j2 O1 L1 HL O2 L2 O5 L5
        go_upto_region 9 with fail
        have L7 := Lib.hid (L6.out.put (.slice pa n2 pc) (.slice qa m2 qc) (.int .i64 (l2 : Nat)) (.bool q))
        have O7 := Lib.hid ((four_other w6 (.slice pa n2 pc) (.slice qa m2 qc) (.int .i64 (l2 : Nat)) (.bool q) (fun e => by have h1 := O6.out; rw [e, L6.out.u] at h1; simp at h1)).trans O6.out)
        generalize (((w6.setCell ⟨U, 0, none⟩ (.slice pa n2 pc)).setCell ⟨U, 1, none⟩ (.slice qa m2 qc)).setCell ⟨U, 2, none⟩ (.int .i64 (l2 : Nat))).setCell ⟨U, 3, none⟩ (.bool q) = w7 at L7 O7 ⊢
        have T7 := pair_at O7.out
        have j7 := heap_lt O7.out
        clear C6 U6 F6 i6 j6 O6 T6 L6
        have hkd := errB_kinds HX.out
        simp only at hkd
        rcases hkd with rfl | rfl | rfl | rfl
        · have HSRD : Hid (readB st ⟨1, by'⟩ = []) := Lib.hid (by unfold readB; exact if_neg (fun h => absurd h.2 (by simp)))
          have HSSD : Hid (sentB st ⟨1, by'⟩ = []) := Lib.hid (by unfold sentB; exact if_neg (fun h => absurd h.2 (by simp)))
          go_wp2_with fail
          go_roundw
          case rel => exact ⟨k + 1, n2, m2, a, b, pa, pc, qa, qc, ra, rc, sa, sc, by omega, by go_num, rfl, rfl, Lib.hid (by rw [HNR.out, HND.out, HNS.out, HSTB.out, HSP.out, HSRD.out, HSSD.out, HL2.out, HQP.out, List.append_nil, List.append_nil]; exact L7.out)⟩
          case measure => simp [intOf]; omega
        · have HSRD : Hid (readB st ⟨2, by'⟩ = [y]) := Lib.hid (by unfold readB; rw [if_pos ⟨HX.out, rfl⟩, HYP.out])
          have HSSD : Hid (sentB st ⟨2, by'⟩ = []) := Lib.hid (by unfold sentB; exact if_neg (fun h => absurd h.2 (by simp)))
          have L8 := Lib.hid (L7.out.step (below_alloc w7 (.cells #[.int .u8 (ub y)] 5)))
          have X8 := Lib.hid (byte_lit w7 y 1)
          go_wp2_with (first
            | (at_builtin; refine wpList_append_que shB rfl _ _ 22 rfl w.heap.size 5 i0 _ 1 Try.underlying22 hi hz0 hz1 hz2 rfl (.slice ra a rc) a rk [y] rfl L8.out.r (some ⟨w7.heap.size, 0, none⟩) 1 1 rfl (Lib.hid rfl) X8.out (by unfold maxLen; omega) (by omega) L8.out.q.b.size ?_; intro ra9 rc9 w9 own9 grow9 new9; have L9 := Lib.hid (L8.out.read grow9 own9 (fun g hg => (new9 g hg).imp id (fun e => by rw [e]; exact Nat.le_refl _))); clear own9 grow9 new9)
            | fail)
          go_roundw
          case rel => exact ⟨k + 1, n2, m2, a + 1, b, pa, pc, qa, qc, ra9, rc9, sa, sc, by omega, by go_num, rfl, rfl, Lib.hid (by rw [HNR.out, HND.out, HNS.out, HSTB.out, HSP.out, HSRD.out, HSSD.out, HL2.out, HQP.out, List.append_nil]; exact L9.out)⟩
          case measure => simp [intOf]; omega
        · have HSRD : Hid (readB st ⟨3, by'⟩ = []) := Lib.hid (by unfold readB; exact if_neg (fun h => absurd h.2 (by simp)))
          have HSSD : Hid (sentB st ⟨3, by'⟩ = []) := Lib.hid (by unfold sentB; exact if_neg (fun h => absurd h.2 (by simp)))
          go_wp2_with fail
          go_roundw
          case rel => exact ⟨k + 1, n2, m2, a, b, pa, pc, qa, qc, ra, rc, sa, sc, by omega, by go_num, rfl, rfl, Lib.hid (by rw [HNR.out, HND.out, HNS.out, HSTB.out, HSP.out, HSRD.out, HSSD.out, HL2.out, HQP.out, List.append_nil, List.append_nil]; exact L7.out)⟩
          case measure => simp [intOf]; omega
        · have HSRD : Hid (readB st ⟨4, by'⟩ = []) := Lib.hid (by unfold readB; exact if_neg (fun h => absurd h.2 (by simp)))
          have HSSD : Hid (sentB st ⟨4, by'⟩ = [y]) := Lib.hid (by unfold sentB; rw [if_pos ⟨HX.out, rfl⟩, HYP.out])
          have L8 := Lib.hid (L7.out.step (below_alloc w7 (.cells #[.int .u8 (ub y)] 5)))
          have X8 := Lib.hid (byte_lit w7 y 1)
          go_wp2_with (first
            | (at_builtin; refine wpList_append_que shB rfl _ _ 22 rfl w.heap.size 5 i0 _ 1 Try.underlying22 hi hz0 hz1 hz2 rfl (.slice sa b sc) b sk [y] rfl L8.out.s (some ⟨w7.heap.size, 0, none⟩) 1 1 rfl (Lib.hid rfl) X8.out (by unfold maxLen; omega) (by omega) L8.out.q.b.size ?_; intro ra9 rc9 w9 own9 grow9 new9; have L9 := Lib.hid (L8.out.sent grow9 own9 (fun g hg => (new9 g hg).imp id (fun e => by rw [e]; exact Nat.le_refl _))); clear own9 grow9 new9)
            | fail)
          go_roundw
          case rel => exact ⟨k + 1, n2, m2, a, b + 1, pa, pc, qa, qc, ra, rc, ra9, rc9, by omega, by go_num, rfl, rfl, Lib.hid (by rw [HNR.out, HND.out, HNS.out, HSTB.out, HSP.out, HSRD.out, HSSD.out, HL2.out, HQP.out, List.append_nil]; exact L9.out)⟩
          case measure => simp [intOf]; omega
      · have hxb : (x != 0) = true := by simpa using hx0
        have HSTB : Hid (stepB st ⟨kd, by'⟩ = st) := Lib.hid (by unfold stepB; rw [if_neg (by rw [HX.out]; exact hx0)])
        have HSRD : Hid (readB st ⟨kd, by'⟩ = []) := Lib.hid (by unfold readB; rw [if_neg (by rw [HX.out]; exact fun h => hx0 h.1)])
        have HSSD : Hid (sentB st ⟨kd, by'⟩ = []) := Lib.hid (by unfold sentB; rw [if_neg (by rw [HX.out]; exact fun h => hx0 h.1)])
        go_wp2_with (first
          | (go_at_call 17; (with_reducible refine (check_W _ _ n1 ic m1 oc ls _ kd (ub by') _ h16n h16m hll x HU).mono ?_); rintro e w2 ⟨rfl, hb2⟩; have L2 := Lib.hid (L1.out.step hb2); clear hb2)
          | fail)
        go_roundw
        case rel => exact ⟨k + 1, n1, m1, a, b, ia, ic, oa, oc, ra, rc, sa, sc, by omega, by go_num, rfl, rfl, Lib.hid (by rw [HNR.out, HND.out, HNS.out, HSTB.out, HSRD.out, HSSD.out, List.append_nil, List.append_nil, HLS.out]; exact L2.out)⟩
        case measure => simp [intOf]; omega
    · obtain rfl : k = n := by omega
      have e : ops.take k = ops := by rw [← hm.out, List.take_length]
      rw [e, hs.out, hrd.out, hsd.out] at HL
      obtain rfl : n1 = N := by rw [← que_len HL.out.q.i, hN.out]
      obtain rfl : m1 = M := by rw [← que_len HL.out.q.o, hM.out]
      obtain rfl : a = A := by rw [← que_len HL.out.r, hA.out]
      obtain rfl : b = B := by rw [← que_len HL.out.s, hB.out]
      have U1 := four_at HL.out.u
      have Z1 := four_at HL.out.z
      have F1 := fun i => frozen_of_row wr w.heap.size i _ _ HL.out.z
      have hUr := heap_lt HL.out.u
      have hZr := heap_lt HL.out.z
      have hlU := HL.out.lt
      have hne1 : ¬ w.heap.size = U := by omega
      have hne2 : ¬ U = w.heap.size := by omega
      clear e hlt hk
      go_wp2_with fail
      go_region
      go_wp2_with fail
      refine bodyPost_ret (results_tmp2_row rfl _ _ w.heap.size 24 #[.slice ia n1 ic, .slice oa m1 oc, .int .i64 (s.lost : Nat), .bool (decide (0 < n1))] (0, 0) _ rfl (four_drew HL.out.z) Try.underlying24 rfl size_dev) rfl ?_
      have x1 := que_ne HL.out.q.i HL.out.z (by decide)
      have x2 := que_ne HL.out.q.o HL.out.z (by decide)
      have x3 := que_ne HL.out.r HL.out.z (by decide)
      have x4 := que_ne HL.out.s HL.out.z (by decide)
      have D9 := (HL.out.q.four (B := w.heap.size) (Nat.le_refl _) x1 x2 (.slice ia n1 ic) (.slice oa m1 oc) (.int .i64 (s.lost : Nat)) (.bool (decide (0 < n1)))).drew
      have R9 := que_at (que_step (que_four HL.out.r x3 (.slice ia n1 ic) (.slice oa m1 oc) (.int .i64 (s.lost : Nat)) (.bool (decide (0 < n1)))) ((Below.refl _ _).drew))
      have S9 := que_at (que_step (que_four HL.out.s x4 (.slice ia n1 ic) (.slice oa m1 oc) (.int .i64 (s.lost : Nat)) (.bool (decide (0 < n1)))) ((Below.refl _ _).drew))
      exact ⟨ra, rc, sa, sc, ia, ic, oa, oc, rfl, R9, S9, que_at D9.i, que_at D9.o, D9.b⟩
end Go.Proofs.Ytalcfbdnnlapnaa
