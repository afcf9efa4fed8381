/- Package uart's reference: corebellref.PPlay. -/
import Derived.Test.YtalcfbdnnlapnaaUSteps
namespace Go.Proofs.Ytalcfbdnnlapnaa
open Go.RowKit

abbrev tL : TypeId := 43
/-- What is in memory while PPlay runs: the device's box, the two rows' box, what the device reads as, the rows. -/
structure LpR (w wx : World) (U L : Nat) (R : Array Value) (lr ls rv sv : Value) (ia : Option Addr) (ic : Nat) (oa : Option Addr) (oc n m a b : Nat) (inn out rd sd : List UInt8) : Prop where
  bel : Below w.heap.size w wx
  lU : w.heap.size < U
  lL : U < L
  z : wx.heap[w.heap.size]? = some (.cells #[.slice none 0 0, .slice none 0 0, .int .i64 0, .bool false] tU (0, 0))
  u : wx.heap[U]? = some (.cells R tU (0, 0))
  l : wx.heap[L]? = some (.cells #[lr, ls] tL (0, 0))
  r : Que shB wx w.heap.size tB rv a rd
  s : Que shB wx w.heap.size tB sv b sd
  rs : Ap rv sv
  i1 : Rd wx rv ia ic n inn
  i2 : Rd wx sv ia ic n inn
  o1 : Rd wx rv oa oc m out
  o2 : Rd wx sv oa oc m out
  li : inn.length = n
  lo : out.length = m
section
variable {w wx wy : World} {U L : Nat} {R : Array Value} {lr ls rv sv : Value} {ia : Option Addr} {ic : Nat} {oa : Option Addr} {oc n m a b : Nat} {inn out rd sd : List UInt8}
theorem LpR.step (h : LpR w wx U L R lr ls rv sv ia ic oa oc n m a b inn out rd sd) (hb : Below wx.heap.size wx wy) : LpR w wy U L R lr ls rv sv ia ic oa oc n m a b inn out rd sd :=
  ⟨pstep h.bel hb, h.lU, h.lL, heap_step h.z hb, heap_step h.u hb, heap_step h.l hb, que_step h.r hb, que_step h.s hb, h.rs, h.i1.step hb, h.i2.step hb, h.o1.step hb, h.o2.step hb, h.li, h.lo⟩
/-- Another device, out of a step. -/
theorem LpR.dev {ia' : Option Addr} {ic' : Nat} {oa' : Option Addr} {oc' n' m' : Nat} {inn' out' : List UInt8} (h : LpR w wx U L R lr ls rv sv ia ic oa oc n m a b inn out rd sd) (hb : Below wx.heap.size wx wy) (h1 : shB.At wy ia' ic' inn') (h2 : shB.At wy oa' oc' out') (f1 : Fs wx (.slice ia' n' ic')) (f2 : Fs wx (.slice oa' m' oc')) (l1 : inn'.length = n') (l2 : out'.length = m') :
    LpR w wy U L R lr ls rv sv ia' ic' oa' oc' n' m' a b inn' out' rd sd :=
  ⟨pstep h.bel hb, h.lU, h.lL, heap_step h.z hb, heap_step h.u hb, heap_step h.l hb, que_step h.r hb, que_step h.s hb, h.rs,
    ⟨h1, fun _ g hg1 hg2 => by have := (que_lt h.r hg1).2; have := f1 g hg2; omega⟩, ⟨h1, fun _ g hg1 hg2 => by have := (que_lt h.s hg1).2; have := f1 g hg2; omega⟩,
    ⟨h2, fun _ g hg1 hg2 => by have := (que_lt h.r hg1).2; have := f2 g hg2; omega⟩, ⟨h2, fun _ g hg1 hg2 => by have := (que_lt h.s hg1).2; have := f2 g hg2; omega⟩, l1, l2⟩
/-- The device's box is written. -/
theorem LpR.put {ja ka : Option Addr} {jc kc p q lost : Nat} {t : Bool} (h : LpR w wx U L #[.slice ja p jc, .slice ka q kc, .int .i64 (lost : Nat), .bool t] lr ls rv sv ia ic oa oc n m a b inn out rd sd) (x' y' z' u' : Value) :
    LpR w ((((wx.setCell ⟨U, 0, none⟩ x').setCell ⟨U, 1, none⟩ y').setCell ⟨U, 2, none⟩ z').setCell ⟨U, 3, none⟩ u') U L #[x', y', z', u'] lr ls rv sv ia ic oa oc n m a b inn out rd sd := by
  have hU := h.lU
  have hL := h.lL
  have hc : ∀ (k : Nat) (c : Value), (#[.slice ja p jc, .slice ka q kc, .int .i64 (lost : Nat), .bool t] : Array Value)[k]? = some c → ∀ n : Int, c ≠ Value.int .u8 n := fun k c hk n => by
    match k, hk with
    | 0, hk => cases hk; exact fun e => by cases e
    | 1, hk => cases hk; exact fun e => by cases e
    | 2, hk => cases hk; exact fun e => by cases e
    | 3, hk => cases hk; exact fun e => by cases e
    | k + 4, hk => simp at hk
  exact ⟨four_below _ _ _ _ h.bel (by omega), hU, hL, (four_other wx _ _ _ _ (by omega)).trans h.z, four_set h.u, (four_other wx _ _ _ _ (by omega)).trans h.l, que_four h.r (que_ne h.r h.u (by decide)) _ _ _ _, que_four h.s (que_ne h.s h.u (by decide)) _ _ _ _, h.rs,
    ⟨at_four h.i1.a _ _ _ _ (byte_ne h.i1.a h.u hc), h.i1.p⟩, ⟨at_four h.i2.a _ _ _ _ (byte_ne h.i2.a h.u hc), h.i2.p⟩, ⟨at_four h.o1.a _ _ _ _ (byte_ne h.o1.a h.u hc), h.o1.p⟩, ⟨at_four h.o2.a _ _ _ _ (byte_ne h.o2.a h.u hc), h.o2.p⟩, h.li, h.lo⟩
theorem Rd.other {gv gv' : Value} {aa : Option Addr} {ac k : Nat} {l : List UInt8} (h : Rd wx gv aa ac k l) (h' : Rd wx gv' aa ac k l) (hg : wx.grownBy wy gv.ownBlock) : Rd wy gv' aa ac k l :=
  ⟨at_grown (n := k) h.a hg (fun h0 g h1 e => h.p h0 g e.symm h1), h'.p⟩
/-- One more was read. -/
theorem LpR.read {rv' : Value} {a' : Nat} {rd' : List UInt8} (h : LpR w wx U L R lr ls rv sv ia ic oa oc n m a b inn out rd sd) (hg : wx.grownBy wy rv.ownBlock) (hq : Que shB wy w.heap.size tB rv' a' rd') (hf : Fr wx rv rv') : LpR w wy U L R lr ls rv' sv ia ic oa oc n m a' b inn out rd' sd :=
  ⟨h.bel.grown hg h.bel.size (fun k hk => (que_lt h.r hk).1), h.lU, h.lL, (hg.block _ (heap_lt h.z) (fun e => que_apart h.r _ _ _ h.z (by decide) e.symm)).trans h.z, (hg.block _ (heap_lt h.u) (fun e => que_apart h.r _ _ _ h.u (by decide) e.symm)).trans h.u, (hg.block _ (heap_lt h.l) (fun e => que_apart h.r _ _ _ h.l (by decide) e.symm)).trans h.l,
    hq, que_kept h.s hg (fun g h1 e => h.rs g e.symm h1), fr_ap h.rs h.s hf, h.i1.told hg hf, h.i1.other h.i2 hg, h.o1.told hg hf, h.o1.other h.o2 hg, h.li, h.lo⟩
/-- One more was sent. -/
theorem LpR.sent {sv' : Value} {b' : Nat} {sd' : List UInt8} (h : LpR w wx U L R lr ls rv sv ia ic oa oc n m a b inn out rd sd) (hg : wx.grownBy wy sv.ownBlock) (hq : Que shB wy w.heap.size tB sv' b' sd') (hf : Fr wx sv sv') : LpR w wy U L R lr ls rv sv' ia ic oa oc n m a b' inn out rd sd' :=
  ⟨h.bel.grown hg h.bel.size (fun k hk => (que_lt h.s hk).1), h.lU, h.lL, (hg.block _ (heap_lt h.z) (fun e => que_apart h.s _ _ _ h.z (by decide) e.symm)).trans h.z, (hg.block _ (heap_lt h.u) (fun e => que_apart h.s _ _ _ h.u (by decide) e.symm)).trans h.u, (hg.block _ (heap_lt h.l) (fun e => que_apart h.s _ _ _ h.l (by decide) e.symm)).trans h.l,
    que_kept h.r hg (fun g h1 e => h.rs g h1 e.symm), hq, ap_fr h.rs h.r hf, h.i2.other h.i1 hg, h.i2.told hg hf, h.o2.other h.o1 hg, h.o2.told hg hf, h.li, h.lo⟩
theorem at_one {W : World} {ad : Option Addr} {cap : Nat} {l : List UInt8} (h : shB.At W ad cap l) {B i : Nat} (u : Value) (hne : 0 < l.length → ∀ a, ad = some a → a.block ≠ B) : shB.At (W.setCell ⟨B, i, none⟩ u) ad cap l :=
  ⟨h.1, fun h0 => by
    obtain ⟨b, off, rfl, hb, hl⟩ := h.2 h0
    have hn : b ≠ B := hne h0 _ rfl
    refine ⟨b, off, rfl, by simpa using hb, fun k hk => ?_⟩
    rw [← hl k hk]
    exact World.cell?_of_block (a := ⟨b, off + k, none⟩) (Below.heap_setCell W _ _ _ hn)⟩
theorem byte_two {W : World} {ad : Option Addr} {cap : Nat} {l : List UInt8} (h : shB.At W ad cap l) {B : Nat} {ra sa : Option Addr} {rn rc sn sc : Nat} {t : TypeId} (hB : W.heap[B]? = some (.cells #[.slice ra rn rc, .slice sa sn sc] t (0, 0))) : 0 < l.length → ∀ a, ad = some a → a.block ≠ B := fun h0 a ha e => by
  obtain ⟨b, off, rfl, hb, hl⟩ := h.2 h0
  cases ha
  simp only at e
  subst e
  cases l with
  | nil => simp at h0
  | cons c r =>
    obtain ⟨b', off', e', _, c0⟩ := at_byte h (k := 0) (x := c) rfl
    cases e'
    rw [Nat.add_zero, cell_of_row _ _ _ _ _ _ hB] at c0
    match off, c0 with
    | 0, c0 => cases c0
    | 1, c0 => cases c0
    | k + 2, c0 => simp at c0
/-- A row's slice is written down. -/
theorem LpR.set0 {ra sa : Option Addr} {rn rc sn sc : Nat} (h : LpR w wx U L R (.slice ra rn rc) (.slice sa sn sc) rv sv ia ic oa oc n m a b inn out rd sd) (v : Value) : LpR w (wx.setCell ⟨L, 0, none⟩ v) U L R v (.slice sa sn sc) rv sv ia ic oa oc n m a b inn out rd sd := by
  have hU := h.lU
  have hL := h.lL
  exact ⟨h.bel.setCell (by simp only; omega) _, hU, hL, (Below.heap_setCell _ _ _ _ (by simp only; omega)).trans h.z, (Below.heap_setCell _ _ _ _ (by simp only; omega)).trans h.u, heap_setCell_same _ _ 0 _ _ _ h.l, que_set h.r (que_ne h.r h.l (by decide)) _, que_set h.s (que_ne h.s h.l (by decide)) _, h.rs,
    ⟨at_one h.i1.a _ (byte_two h.i1.a h.l), h.i1.p⟩, ⟨at_one h.i2.a _ (byte_two h.i2.a h.l), h.i2.p⟩, ⟨at_one h.o1.a _ (byte_two h.o1.a h.l), h.o1.p⟩, ⟨at_one h.o2.a _ (byte_two h.o2.a h.l), h.o2.p⟩, h.li, h.lo⟩
theorem LpR.set1 {ra sa : Option Addr} {rn rc sn sc : Nat} (h : LpR w wx U L R (.slice ra rn rc) (.slice sa sn sc) rv sv ia ic oa oc n m a b inn out rd sd) (v : Value) : LpR w (wx.setCell ⟨L, 1, none⟩ v) U L R (.slice ra rn rc) v rv sv ia ic oa oc n m a b inn out rd sd := by
  have hU := h.lU
  have hL := h.lL
  exact ⟨h.bel.setCell (by simp only; omega) _, hU, hL, (Below.heap_setCell _ _ _ _ (by simp only; omega)).trans h.z, (Below.heap_setCell _ _ _ _ (by simp only; omega)).trans h.u, heap_setCell_same _ _ 1 _ _ _ h.l, que_set h.r (que_ne h.r h.l (by decide)) _, que_set h.s (que_ne h.s h.l (by decide)) _, h.rs,
    ⟨at_one h.i1.a _ (byte_two h.i1.a h.l), h.i1.p⟩, ⟨at_one h.i2.a _ (byte_two h.i2.a h.l), h.i2.p⟩, ⟨at_one h.o1.a _ (byte_two h.o1.a h.l), h.o1.p⟩, ⟨at_one h.o2.a _ (byte_two h.o2.a h.l), h.o2.p⟩, h.li, h.lo⟩
end
/-- The step of a good device, by names. -/
theorem pstep_ok {ia oa : Option Addr} {ic oc : Nat} {st : StB} (o : UaT) (n m : Nat) (lost : Nat) (hls : st.lost = lost) (hg : GoodB st) (hn : Hid (st.inn.length = n)) (hm : Hid (st.out.length = m)) (he : errB st o = 0) (s' : StB) (hs : doB st o = s') (n2 m2 l2 : Nat) (h2 : s'.inn.length = n2) (h3 : s'.out.length = m2) (h4 : s'.lost = l2) (y : UInt8) (hy : byteB st o = y) (q : Bool) (hq : decide (0 < n2) = q) (w : World) (H1 : Hid (shB.At w ia ic st.inn)) (H2 : Hid (shB.At w oa oc st.out)) :
    Calls Try.prog 9 #[.agg #[.slice ia n ic, .slice oa m oc, .int .i64 (lost : Nat), .bool (decide (0 < n))], .agg #[.int .i64 o.k, .int .u8 (ub o.b)]] w (StepOut w n2 m2 s'.inn s'.out l2 q (ub y) 0) := by
  have h := pstep_W n m (lost : Nat) (decide (0 < n)) o w hn hm H1 H2
  have hr := rgt_good hg
  subst hls hs h2 h3 h4 hy hq
  have e1 := hn.out
  have e2 := hm.out
  subst e1 e2
  unfold StepAll resU at h
  have hl : ((st.lost : Nat) : Int).toNat = st.lost := by omega
  rw [if_pos hr, hl, if_pos he] at h
  exact h
theorem pstep_no {ia oa : Option Addr} {ic oc : Nat} {st : StB} (o : UaT) (n m : Nat) (lost : Nat) (hls : st.lost = lost) (hg : GoodB st) (hn : Hid (st.inn.length = n)) (hm : Hid (st.out.length = m)) (x : Int) (he : errB st o = x) (hx : ¬ x = 0) (w : World) (H1 : Hid (shB.At w ia ic st.inn)) (H2 : Hid (shB.At w oa oc st.out)) :
    Calls Try.prog 9 #[.agg #[.slice ia n ic, .slice oa m oc, .int .i64 (lost : Nat), .bool (decide (0 < n))], .agg #[.int .i64 o.k, .int .u8 (ub o.b)]] w (StepOut w 0 0 [] [] 0 false 0 x) := by
  have h := pstep_W n m (lost : Nat) (decide (0 < n)) o w hn hm H1 H2
  have hr := rgt_good hg
  subst hls he
  have e1 := hn.out
  have e2 := hm.out
  subst e1 e2
  unfold StepAll resU at h
  have hl : ((st.lost : Nat) : Int).toNat = st.lost := by omega
  rw [if_pos hr, hl, if_neg hx] at h
  exact h
/-- What is left behind. -/
theorem end_R {w wr : World} {U L : Nat} {R : Array Value} {lr ls : Value} {ra : Option Addr} {rc : Nat} {sa : Option Addr} {sc : Nat} {ia : Option Addr} {ic : Nat} {oa : Option Addr} {oc n m a b lost : Nat} {q : Bool} {inn out rd sd : List UInt8} (h : LpR w wr U L R lr ls (.slice ra a rc) (.slice sa b sc) ia ic oa oc n m a b inn out rd sd) :
    PlayOut w a b n m lost q rd sd inn out (.returned (.tuple #[.slice ra a rc, .slice sa b sc, .agg #[.slice ia n ic, .slice oa m oc, .int .i64 (lost : Nat), .bool q]])) ((((wr.setCell ⟨w.heap.size, 0, none⟩ (.slice ia n ic)).setCell ⟨w.heap.size, 1, none⟩ (.slice oa m oc)).setCell ⟨w.heap.size, 2, none⟩ (.int .i64 (lost : Nat))).setCell ⟨w.heap.size, 3, none⟩ (.bool q)).drew := by
  have hc : ∀ (k : Nat) (c : Value), (#[.slice none 0 0, .slice none 0 0, .int .i64 0, .bool false] : Array Value)[k]? = some c → ∀ n : Int, c ≠ Value.int .u8 n := fun k c hk n => by
    match k, hk with
    | 0, hk => cases hk; exact fun e => by cases e
    | 1, hk => cases hk; exact fun e => by cases e
    | 2, hk => cases hk; exact fun e => by cases e
    | 3, hk => cases hk; exact fun e => by cases e
    | k + 4, hk => simp at hk
  have x3 := que_ne h.r h.z (by decide)
  have x4 := que_ne h.s h.z (by decide)
  have R9 := que_at (que_step (que_four h.r x3 (.slice ia n ic) (.slice oa m oc) (.int .i64 (lost : Nat)) (.bool q)) ((Below.refl _ _).drew))
  have S9 := que_at (que_step (que_four h.s x4 (.slice ia n ic) (.slice oa m oc) (.int .i64 (lost : Nat)) (.bool q)) ((Below.refl _ _).drew))
  have I9 := (at_four h.i1.a (.slice ia n ic) (.slice oa m oc) (.int .i64 (lost : Nat)) (.bool q) (byte_ne h.i1.a h.z hc)).step ((Below.refl _ _).drew)
  have J9 := (at_four h.o1.a (.slice ia n ic) (.slice oa m oc) (.int .i64 (lost : Nat)) (.bool q) (byte_ne h.o1.a h.z hc)).step ((Below.refl _ _).drew)
  exact ⟨ra, rc, sa, sc, ia, ic, oa, oc, rfl, R9, S9, I9, J9, (four_below _ _ _ _ h.bel (Nat.le_refl _)).drew⟩
set_option maxHeartbeats 4000000 in
set_option maxRecDepth 100000 in
theorem pplay_W {ad : Option Addr} {cap n : Nat} {ops : List UaT} (w : World) (HA : Hid (shO.At w ad cap ops)) (hm : Hid (ops.length = n)) (hn : n ≤ 8796093022208) (s : StB) (rd sd : List UInt8) (hs : Hid (runB newB ops = s)) (hrd : Hid (readsB newB ops = rd)) (hsd : Hid (sentsB newB ops = sd)) (A B N M : Nat) (hA : Hid (rd.length = A)) (hB : Hid (sd.length = B)) (hN : Hid (s.inn.length = N)) (hM : Hid (s.out.length = M)) :
    Calls Try.prog 14 #[.slice ad n cap] w (PlayOut w A B N M s.lost (decide (0 < N)) rd sd s.inn s.out) := by
  obtain ⟨i0, hi, hz0, hz1, hz2⟩ := info_parts' info_byte
  have H0 : LpR w (((w.alloc (.cells #[.slice none 0 0, .slice none 0 0, .int .i64 0, .bool false] 24)).alloc (.cells #[.slice none 0 0, .slice none 0 0, .int .i64 0, .bool false] 24)).alloc (.cells #[.slice none 0 0, .slice none 0 0] 43)) (w.heap.size + 1) (w.heap.size + 1 + 1) #[.slice none 0 0, .slice none 0 0, .int .i64 0, .bool false] (.slice none 0 0) (.slice none 0 0) (.slice none 0 0) (.slice none 0 0) none 0 none 0 0 0 0 0 [] [] [] [] :=
    ⟨below_three w _ _ _, Nat.lt_succ_self _, Nat.lt_succ_self _, heap3_0 _ _ _ _, heap3_1 _ _ _ _, heap3_2 _ _ _ _, que_nil _ _ _ _, que_nil _ _ _ _, (fun g hg => by cases hg), ⟨Shape.At.nil _, fun h => absurd h (by simp)⟩, ⟨Shape.At.nil _, fun h => absurd h (by simp)⟩, ⟨Shape.At.nil _, fun h => absurd h (by simp)⟩, ⟨Shape.At.nil _, fun h => absurd h (by simp)⟩, rfl, rfl⟩
  have H2 := Lib.hid H0
  clear H0
  go_enter Try.func14, Try.ntmps14
  go_wp2_with fail
  generalize ((w.alloc (.cells #[.slice none 0 0, .slice none 0 0, .int .i64 0, .bool false] 24)).alloc (.cells #[.slice none 0 0, .slice none 0 0, .int .i64 0, .bool false] 24)).alloc (.cells #[.slice none 0 0, .slice none 0 0] 43) = wz at H2 ⊢
  generalize hL2 : w.heap.size + 1 + 1 = L at H2 ⊢
  generalize hU2 : w.heap.size + 1 = U at H2 ⊢
  clear hL2 hU2
  go_loopw [14] (fun i wr => ∃ (k n1 m1 a b : Nat) (ia : Option Addr) (ic : Nat) (oa : Option Addr) (oc : Nat) (ra : Option Addr) (rc : Nat) (sa : Option Addr) (sc : Nat), k ≤ n ∧ i = .int .i64 k ∧ Hid (LpR w wr U L #[.slice ia n1 ic, .slice oa m1 oc, .int .i64 ((runB newB (ops.take k)).lost : Nat), .bool (decide (0 < n1))] (.slice ra a rc) (.slice sa b sc) (.slice ra a rc) (.slice sa b sc) ia ic oa oc n1 m1 a b (runB newB (ops.take k)).inn (runB newB (ops.take k)).out (readsB newB (ops.take k)) (sentsB newB (ops.take k)))) (fun i _ => n - (intOf i).toNat)
  case atStart => exact ⟨0, 0, 0, 0, 0, none, 0, none, 0, none, 0, none, 0, Nat.zero_le _, rfl, H2⟩
  case round =>
    clear H2
    obtain ⟨k, n1, m1, a, b, ia, ic, oa, oc, ra, rc, sa, sc, hk, rfl, HL⟩ := hrel
    by_cases hlt : k < n
    · obtain ⟨o, ho⟩ : ∃ o, ops[k]? = some o := ⟨ops[k]'(by rw [hm.out]; exact hlt), List.getElem?_eq_getElem _⟩
      have HNR := Lib.hid (runB_next ho newB)
      have HND := Lib.hid (readsB_next ho newB)
      have HNS := Lib.hid (sentsB_next ho newB)
      have HGD := Lib.hid (good_runB (ops := ops.take k) good_newB)
      have hla := reads_len (ops.take k) newB
      have hlb := sents_len (ops.take k) newB
      rw [List.length_take, hm.out, Nat.min_eq_left hk] at hla hlb
      obtain ⟨bb, off, rfl, hb, e0, e1⟩ := at_op HA.out ho
      have g0 := (HL.out.bel.cell (p := ⟨bb, off + k * 2, none⟩) hb).trans e0
      have g1 := (HL.out.bel.cell (p := ⟨bb, off + k * 2 + 1, none⟩) hb).trans e1
      have hbr : bb < wr.heap.size := Nat.lt_of_lt_of_le hb HL.out.bel.size
      obtain ⟨st, hst⟩ : ∃ st, runB newB (ops.take k) = st := ⟨_, rfl⟩
      obtain ⟨rk, hrk⟩ : ∃ rk, readsB newB (ops.take k) = rk := ⟨_, rfl⟩
      obtain ⟨sk, hsk⟩ : ∃ sk, sentsB newB (ops.take k) = sk := ⟨_, rfl⟩
      rw [hst, hrk, hsk] at HL
      rw [hst] at HNR HND HNS HGD
      rw [hrk] at HND hla
      rw [hsk] at HNS hlb
      have ha1 := que_len HL.out.r
      have hb1 := que_len HL.out.s
      rw [ha1] at hla
      rw [hb1] at hlb
      have HN1 := Lib.hid HL.out.li
      have HM1 := Lib.hid HL.out.lo
      obtain ⟨ls, hls⟩ : ∃ ls, st.lost = ls := ⟨_, rfl⟩
      have HLS := Lib.hid hls
      rw [hls] at HL
      obtain ⟨x, hx⟩ : ∃ x, errB st o = x := ⟨_, rfl⟩
      have HX := Lib.hid hx
      obtain ⟨kd, by'⟩ := o
      simp only at g0 g1
      have L1 := Lib.hid (HL.out.step (below_alloc wr (.cells #[.int .i64 kd, .int .u8 (ub by')] 26)))
      have O1 := Lib.hid (heap_alloc_new wr (.cells #[.int .i64 kd, .int .u8 (ub by')] 26))
      have U1 := four_at L1.out.u
      have hUr := heap_lt HL.out.u
      have Y1 := Lib.hid L1.out.i1.a
      have Y2 := Lib.hid L1.out.o1.a
      clear e0 e1 ho hst hrk hsk ha1 hb1 hls hx
      by_cases hx0 : x = 0
      · subst hx0
        have HSTB : Hid (stepB st ⟨kd, by'⟩ = doB st ⟨kd, by'⟩) := Lib.hid (by unfold stepB; rw [if_pos HX.out])
        obtain ⟨s', hs'⟩ : ∃ s', doB st ⟨kd, by'⟩ = s' := ⟨_, rfl⟩
        obtain ⟨n2, hn2⟩ : ∃ n2, s'.inn.length = n2 := ⟨_, rfl⟩
        obtain ⟨m2, hm2⟩ : ∃ m2, s'.out.length = m2 := ⟨_, rfl⟩
        obtain ⟨l2, hl2⟩ : ∃ l2, s'.lost = l2 := ⟨_, rfl⟩
        obtain ⟨y, hy⟩ : ∃ y, byteB st ⟨kd, by'⟩ = y := ⟨_, rfl⟩
        obtain ⟨q, hq⟩ : ∃ q, decide (0 < n2) = q := ⟨_, rfl⟩
        have RP := Lib.hid (pstep_ok ⟨kd, by'⟩ n1 m1 ls HLS.out HGD.out HN1 HM1 HX.out s' hs' n2 m2 l2 hn2 hm2 hl2 y hy q hq _ Y1 Y2)
        have HSP := Lib.hid hs'
        have HYP := Lib.hid hy
        have HQP := Lib.hid hq
        have HL2 := Lib.hid hl2
        have HN2 := Lib.hid hn2
        have HM2 := Lib.hid hm2
        clear hs' hn2 hm2 hl2 hy hq
        simp only at RP
        go_upto_region 8 with (first
          | (go_at_call 9; (with_reducible refine RP.out.mono ?_); rintro e w5 ⟨pa, pc, qa, qc, rfl, d1, d2, hb5, f5, f6⟩; have O5 := Lib.hid (heap_step O1.out hb5); have L5 := Lib.hid (L1.out.dev hb5 d1 d2 f5 f6 HN2.out HM2.out); clear hb5 d1 d2 f5 f6)
          | fail)
        have L6 := Lib.hid (L5.out.step (below_alloc w5 (.cells #[.slice pa n2 pc, .slice qa m2 qc, .int .i64 (l2 : Nat), .bool q] 24)))
        have O6 := Lib.hid (heap_step O5.out (below_alloc w5 (.cells #[.slice pa n2 pc, .slice qa m2 qc, .int .i64 (l2 : Nat), .bool q] 24)))
        have T6 := Lib.hid (heap_alloc_new w5 (.cells #[.slice pa n2 pc, .slice qa m2 qc, .int .i64 (l2 : Nat), .bool q] 24))
        generalize w5.alloc (.cells #[.slice pa n2 pc, .slice qa m2 qc, .int .i64 (l2 : Nat), .bool q] 24) = w6 at L6 O6 T6 ⊢
        generalize w5.heap.size = T at T6 ⊢
        have C6 := four_at T6.out
        have U6 := four_at L6.out.u
        have F6 := fun i => frozen_of_row w6 U i _ _ L6.out.u
        have i6 := heap_lt L6.out.u
        have j6 := heap_lt T6.out
        clear U1 O1 L1 HL O5 L5 Y1 Y2 RP
        go_upto_region 9 with fail
        have L7 := Lib.hid (L6.out.put (.slice pa n2 pc) (.slice qa m2 qc) (.int .i64 (l2 : Nat)) (.bool q))
        have O7 := Lib.hid ((four_other w6 (.slice pa n2 pc) (.slice qa m2 qc) (.int .i64 (l2 : Nat)) (.bool q) (fun e => by have h1 := O6.out; rw [e, L6.out.u] at h1; simp at h1)).trans O6.out)
        generalize (((w6.setCell ⟨U, 0, none⟩ (.slice pa n2 pc)).setCell ⟨U, 1, none⟩ (.slice qa m2 qc)).setCell ⟨U, 2, none⟩ (.int .i64 (l2 : Nat))).setCell ⟨U, 3, none⟩ (.bool q) = w7 at L7 O7 ⊢
        have T7 := pair_at O7.out
        have j7 := heap_lt O7.out
        have V7 := pair_at L7.out.l
        have v7 := heap_lt L7.out.l
        clear C6 U6 F6 i6 j6 O6 T6 L6
        have hkd := errB_kinds HX.out
        simp only at hkd
        rcases hkd with rfl | rfl | rfl | rfl
        · have HSRD : Hid (readB st ⟨1, by'⟩ = []) := Lib.hid (by unfold readB; exact if_neg (fun h => absurd h.2 (by simp)))
          have HSSD : Hid (sentB st ⟨1, by'⟩ = []) := Lib.hid (by unfold sentB; exact if_neg (fun h => absurd h.2 (by simp)))
          go_wp2_with fail
          go_roundw
          case rel => exact ⟨k + 1, n2, m2, a, b, pa, pc, qa, qc, ra, rc, sa, sc, by omega, by go_num, Lib.hid (by rw [HNR.out, HND.out, HNS.out, HSTB.out, HSP.out, HSRD.out, HSSD.out, HL2.out, HQP.out, List.append_nil, List.append_nil]; exact L7.out)⟩
          case measure => simp [intOf]; omega
        · have HSRD : Hid (readB st ⟨2, by'⟩ = [y]) := Lib.hid (by unfold readB; rw [if_pos ⟨HX.out, rfl⟩, HYP.out])
          have HSSD : Hid (sentB st ⟨2, by'⟩ = []) := Lib.hid (by unfold sentB; exact if_neg (fun h => absurd h.2 (by simp)))
          have b1 : Below w7.heap.size w7 (w7.alloc (.cells #[.int .u8 (ub y)] 5)).drew := (below_alloc w7 _).drew
          have LA := Lib.hid (L7.out.step b1)
          have OA := Lib.hid (heap_step O7.out b1)
          have XA : Hid (shB.At (w7.alloc (.cells #[.int .u8 (ub y)] 5)).drew (some ⟨w7.heap.size, 0, none⟩) 1 [y]) := Lib.hid (byte_lit w7 y 1)
          have sA := LA.out.bel.size
          have q0 : IntKind.i64.wrap 0 = 0 := by decide
          have q1 : IntKind.i64.wrap 1 = 1 := by decide
          have q2 : IntKind.i64.wrap 2 = 2 := by decide
          have q3 : IntKind.i64.wrap (1 - 1) = 0 := by decide
          have q4 : IntKind.i64.wrap (2 - 1) = 1 := by decide
          clear b1
          go_wp2_with fail
          go_region_law (first
            | (refine step_append_que shB rfl _ _ 22 rfl w.heap.size 5 i0 _ 1 Try.underlying22 hi hz0 hz1 hz2 rfl (.slice ra a rc) a rk [y] rfl LA.out.r (some ⟨w7.heap.size, 0, none⟩) 1 1 rfl (Lib.hid rfl) XA.out (by unfold maxLen; omega) (by omega) sA ?_; intro ra9 rc9 w9 own9 grow9 new9; have hf9 : Fr _ (Value.slice ra a rc) (Value.slice ra9 (a + 1) rc9) := fun g hg => (new9 g hg).imp id (fun e => by rw [e]; exact Nat.le_refl _); have L9 := Lib.hid (LA.out.read grow9 own9 hf9); have O9 := Lib.hid ((grow9.block _ (heap_lt OA.out) (fun e => que_apart LA.out.r _ _ _ OA.out (by decide) e.symm)).trans OA.out); have T9 := pair_at O9.out; have j9 := heap_lt O9.out; have V9 := pair_at L9.out.l; have v9 := heap_lt L9.out.l; have F9 := (fun i => frozen_of_row w9 L i _ _ L9.out.l); clear own9 grow9 new9 hf9)
            | fail)
          all_goals go_wp2_with fail
          all_goals go_roundw
          all_goals first
            | exact ⟨k + 1, n2, m2, a + 1, b, pa, pc, qa, qc, ra9, rc9, sa, sc, by omega, by go_num, Lib.hid (by rw [HNR.out, HND.out, HNS.out, HSTB.out, HSP.out, HSRD.out, HSSD.out, HL2.out, HQP.out, List.append_nil]; exact L9.out.set0 _)⟩
            | (simp [intOf]; omega)
        · have HSRD : Hid (readB st ⟨3, by'⟩ = []) := Lib.hid (by unfold readB; exact if_neg (fun h => absurd h.2 (by simp)))
          have HSSD : Hid (sentB st ⟨3, by'⟩ = []) := Lib.hid (by unfold sentB; exact if_neg (fun h => absurd h.2 (by simp)))
          go_wp2_with fail
          go_roundw
          case rel => exact ⟨k + 1, n2, m2, a, b, pa, pc, qa, qc, ra, rc, sa, sc, by omega, by go_num, Lib.hid (by rw [HNR.out, HND.out, HNS.out, HSTB.out, HSP.out, HSRD.out, HSSD.out, HL2.out, HQP.out, List.append_nil, List.append_nil]; exact L7.out)⟩
          case measure => simp [intOf]; omega
        · have HSRD : Hid (readB st ⟨4, by'⟩ = []) := Lib.hid (by unfold readB; exact if_neg (fun h => absurd h.2 (by simp)))
          have HSSD : Hid (sentB st ⟨4, by'⟩ = [y]) := Lib.hid (by unfold sentB; rw [if_pos ⟨HX.out, rfl⟩, HYP.out])
          have b1 : Below w7.heap.size w7 (w7.alloc (.cells #[.int .u8 (ub y)] 5)).drew := (below_alloc w7 _).drew
          have LA := Lib.hid (L7.out.step b1)
          have OA := Lib.hid (heap_step O7.out b1)
          have XA : Hid (shB.At (w7.alloc (.cells #[.int .u8 (ub y)] 5)).drew (some ⟨w7.heap.size, 0, none⟩) 1 [y]) := Lib.hid (byte_lit w7 y 1)
          have sA := LA.out.bel.size
          have q0 : IntKind.i64.wrap 0 = 0 := by decide
          have q1 : IntKind.i64.wrap 1 = 1 := by decide
          have q2 : IntKind.i64.wrap 2 = 2 := by decide
          have q3 : IntKind.i64.wrap (1 - 1) = 0 := by decide
          have q4 : IntKind.i64.wrap (2 - 1) = 1 := by decide
          clear b1
          go_wp2_with fail
          go_region_law (first
            | (refine step_append_que shB rfl _ _ 22 rfl w.heap.size 5 i0 _ 1 Try.underlying22 hi hz0 hz1 hz2 rfl (.slice sa b sc) b sk [y] rfl LA.out.s (some ⟨w7.heap.size, 0, none⟩) 1 1 rfl (Lib.hid rfl) XA.out (by unfold maxLen; omega) (by omega) sA ?_; intro ra9 rc9 w9 own9 grow9 new9; have hf9 : Fr _ (Value.slice sa b sc) (Value.slice ra9 (b + 1) rc9) := fun g hg => (new9 g hg).imp id (fun e => by rw [e]; exact Nat.le_refl _); have L9 := Lib.hid (LA.out.sent grow9 own9 hf9); have O9 := Lib.hid ((grow9.block _ (heap_lt OA.out) (fun e => que_apart LA.out.s _ _ _ OA.out (by decide) e.symm)).trans OA.out); have T9 := pair_at O9.out; have j9 := heap_lt O9.out; have V9 := pair_at L9.out.l; have v9 := heap_lt L9.out.l; have F9 := (fun i => frozen_of_row w9 L i _ _ L9.out.l); clear own9 grow9 new9 hf9)
            | fail)
          all_goals go_wp2_with fail
          all_goals go_roundw
          all_goals first
            | exact ⟨k + 1, n2, m2, a, b + 1, pa, pc, qa, qc, ra, rc, ra9, rc9, by omega, by go_num, Lib.hid (by rw [HNR.out, HND.out, HNS.out, HSTB.out, HSP.out, HSRD.out, HSSD.out, HL2.out, HQP.out, List.append_nil]; exact L9.out.set1 _)⟩
            | (simp [intOf]; omega)
      · have hxb : (x == 0) = false := by simpa using hx0
        have HSTB : Hid (stepB st ⟨kd, by'⟩ = st) := Lib.hid (by unfold stepB; rw [if_neg (by rw [HX.out]; exact hx0)])
        have HSRD : Hid (readB st ⟨kd, by'⟩ = []) := Lib.hid (by unfold readB; rw [if_neg (by rw [HX.out]; exact fun h => hx0 h.1)])
        have HSSD : Hid (sentB st ⟨kd, by'⟩ = []) := Lib.hid (by unfold sentB; rw [if_neg (by rw [HX.out]; exact fun h => hx0 h.1)])
        have RN := Lib.hid (pstep_no ⟨kd, by'⟩ n1 m1 ls HLS.out HGD.out HN1 HM1 x HX.out hx0 _ Y1 Y2)
        simp only at RN
        go_wp2_with (first
          | (go_at_call 9; (with_reducible refine RN.out.mono ?_); rintro e w2 ⟨pa, pc, qa, qc, rfl, _, _, hb2, _, _⟩; have L2 := Lib.hid (L1.out.step hb2); clear hb2)
          | fail)
        go_roundw
        case rel => exact ⟨k + 1, n1, m1, a, b, ia, ic, oa, oc, ra, rc, sa, sc, by omega, by go_num, Lib.hid (by rw [HNR.out, HND.out, HNS.out, HSTB.out, HSRD.out, HSSD.out, List.append_nil, List.append_nil, HLS.out]; exact L2.out.step (below_alloc _ _))⟩
        case measure => simp [intOf]; omega
    · obtain rfl : k = n := by omega
      have e : ops.take k = ops := by rw [← hm.out, List.take_length]
      rw [e, hs.out, hrd.out, hsd.out] at HL
      obtain rfl : n1 = N := by rw [← HL.out.li, hN.out]
      obtain rfl : m1 = M := by rw [← HL.out.lo, hM.out]
      obtain rfl : a = A := by rw [← que_len HL.out.r, hA.out]
      obtain rfl : b = B := by rw [← que_len HL.out.s, hB.out]
      have U1 := four_at HL.out.u
      have V1 := pair_at HL.out.l
      have Z1 := four_at HL.out.z
      have F1 := fun i => frozen_of_row wr w.heap.size i _ _ HL.out.z
      have hUr := heap_lt HL.out.u
      have hLr := heap_lt HL.out.l
      have hZr := heap_lt HL.out.z
      have hlU := HL.out.lU
      have hlL := HL.out.lL
      have hne1 : ¬ w.heap.size = U := by omega
      have hne2 : ¬ U = w.heap.size := by omega
      have hne3 : ¬ w.heap.size = L := by omega
      have hne4 : ¬ L = w.heap.size := by omega
      clear e hlt hk
      go_wp2_with fail
      go_region
      all_goals go_wp2_with fail
      all_goals refine bodyPost_ret (results_tmp2_row rfl _ _ w.heap.size 24 #[.slice ia n1 ic, .slice oa m1 oc, .int .i64 (s.lost : Nat), .bool (decide (0 < n1))] (0, 0) _ rfl (four_drew HL.out.z) Try.underlying24 rfl size_dev) rfl ?_
      all_goals exact end_R HL.out
end Go.Proofs.Ytalcfbdnnlapnaa
