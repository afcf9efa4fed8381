/- The walk of corebellref.KPlay. -/
import Derived.Test.YtnnphmpodcmmoaaWPar
import Derived.Test.YtnnphmpodcmmoaaWhlK
import Derived.Deep.CutRange
import Derived.Deep.CutBlock
namespace Go.Proofs.Ytnnphmpodcmmoaa
open Go.RowKit Go.Maps

/-- What is in memory while KPlay runs: the map, the error codes, what fired. -/
structure LpQ (w wx : World) (mb L : Nat) (set : List FiT) (es : List Int) (fd : List FiT) (vE vF : Value) (nE nF : Nat) : Prop where
  b : Below w.heap.size w wx
  mp : MapW wx mb L set
  lt : w.heap.size ≤ mb
  oe : wx.ownsRow w.heap.size 25 1 vE nE (shI.flat es)
  of : wx.ownsRow w.heap.size 31 2 vF nF (shF.flat fd)
/-- .. and what is due. -/
structure LpD (w wx : World) (mb L : Nat) (set : List FiT) (es : List Int) (fd : List FiT) (vE vF : Value) (nE nF : Nat) (du : List FiT) (vD : Value) (nD : Nat) : Prop where
  q : LpQ w wx mb L set es fd vE vF nE nF
  od : wx.ownsRow w.heap.size 31 2 vD nD (shF.flat du)
  ne : ∀ g, vD.ownBlock = some g → vF.ownBlock = some g → False
section
variable {w wx wy : World} {mb L : Nat} {set : List FiT} {es : List Int} {fd : List FiT} {vE vF : Value} {nE nF : Nat} {du : List FiT} {vD : Value} {nD : Nat}
theorem LpQ.step (h : LpQ w wx mb L set es fd vE vF nE nF) (hb : Below wx.heap.size wx wy) : LpQ w wy mb L set es fd vE vF nE nF :=
  ⟨pstep h.b hb, h.mp.step hb, h.lt, own_step h.oe hb, own_step h.of hb⟩
theorem LpQ.more (h : LpQ w wx mb L set es fd vE vF nE nF) {L' : Nat} (hL : L ≤ L') : LpQ w wx mb L' set es fd vE vF nE nF := ⟨h.b, h.mp.more hL, h.lt, h.oe, h.of⟩
theorem LpQ.turn (h : LpQ w wx mb L set es fd vE vF nE nF) {L' : Nat} {set' : List FiT} (hg : wx.grownBy wy (some mb)) (hm : MapW wy mb L' set') : LpQ w wy mb L' set' es fd vE vF nE nF :=
  ⟨h.b.grown hg h.b.size (fun k hk => by cases hk; exact h.lt), hm, h.lt,
    own_heap h.oe fun k _ hk ho => (hg.block k (heap_lt ho) (fun e => own_nemapW h.oe h.mp k hk (Option.some.inj e))).trans ho,
    own_heap h.of fun k _ hk ho => (hg.block k (heap_lt ho) (fun e => own_nemapW h.of h.mp k hk (Option.some.inj e))).trans ho⟩
theorem LpQ.growE (h : LpQ w wx mb L set es fd vE vF nE nF) {vE' : Value} {n' : Nat} {es' : List Int} (hg : wx.grownBy wy vE.ownBlock) (ho : wy.ownsRow w.heap.size 25 1 vE' n' (shI.flat es')) : LpQ w wy mb L set es' fd vE' vF n' nF :=
  ⟨h.b.grown hg h.b.size (fun k hk => (own_lt h.oe hk).1), h.mp.same (hg.block _ h.mp.lt (fun e => own_nemapW h.oe h.mp mb e.symm rfl)), h.lt, ho,
    own_heap h.of fun k _ hk ho' => (hg.block k (heap_lt ho') (fun e => own_two h.oe h.of (by decide) k e.symm hk)).trans ho'⟩
theorem LpQ.growF (h : LpQ w wx mb L set es fd vE vF nE nF) {vF' : Value} {n' : Nat} {fd' : List FiT} (hg : wx.grownBy wy vF.ownBlock) (ho : wy.ownsRow w.heap.size 31 2 vF' n' (shF.flat fd')) : LpQ w wy mb L set es fd' vE vF' nE n' :=
  ⟨h.b.grown hg h.b.size (fun k hk => (own_lt h.of hk).1), h.mp.same (hg.block _ h.mp.lt (fun e => own_nemapW h.of h.mp mb e.symm rfl)), h.lt,
    own_heap h.oe fun k _ hk ho' => (hg.block k (heap_lt ho') (fun e => own_two h.of h.oe (by decide) k e.symm hk)).trans ho', ho⟩
theorem LpD.step (h : LpD w wx mb L set es fd vE vF nE nF du vD nD) (hb : Below wx.heap.size wx wy) : LpD w wy mb L set es fd vE vF nE nF du vD nD := ⟨h.q.step hb, own_step h.od hb, h.ne⟩
theorem LpD.turn (h : LpD w wx mb L set es fd vE vF nE nF du vD nD) {L' : Nat} {set' : List FiT} (hg : wx.grownBy wy (some mb)) (hm : MapW wy mb L' set') : LpD w wy mb L' set' es fd vE vF nE nF du vD nD :=
  ⟨h.q.turn hg hm, own_heap h.od fun k _ hk ho => (hg.block k (heap_lt ho) (fun e => own_nemapW h.od h.q.mp k hk (Option.some.inj e))).trans ho, h.ne⟩
theorem LpD.growD (h : LpD w wx mb L set es fd vE vF nE nF du vD nD) {vD' : Value} {n' : Nat} {du' : List FiT} (hg : wx.grownBy wy vD.ownBlock) (ho : wy.ownsRow w.heap.size 31 2 vD' n' (shF.flat du')) (hn : ∀ g, vD'.ownBlock = some g → vD.ownBlock = some g ∨ g = wx.heap.size) : LpD w wy mb L set es fd vE vF nE nF du' vD' n' :=
  ⟨⟨h.q.b.grown hg h.q.b.size (fun k hk => (own_lt h.od hk).1), h.q.mp.same (hg.block _ h.q.mp.lt (fun e => own_nemapW h.od h.q.mp mb e.symm rfl)), h.q.lt,
    own_heap h.q.oe fun k _ hk ho' => (hg.block k (heap_lt ho') (fun e => own_two h.od h.q.oe (by decide) k e.symm hk)).trans ho',
    own_heap h.q.of fun k _ hk ho' => (hg.block k (heap_lt ho') (fun e => h.ne k e.symm hk)).trans ho'⟩, ho, fun g h1 h2 => by
      rcases hn g h1 with e | e
      · exact h.ne g e h2
      · have := (own_lt h.q.of h2).2
        omega⟩
end
/-- An iterator's block is no row's. -/
theorem rng_ne {w : World} {b r n : Nat} {D : Dt} {left : Lit → Bool} {cnt : Nat} (h : w.ranges Try.prog 3 (plainElem Try.prog 3) b r n D left cnt) {base e size k : Nat} {v : Value} {xs : List Value} (ho : w.ownsRow base e size v k xs) : some r ≠ v.ownBlock := by
  intro e0
  obtain ⟨es, clock, since, seen, c0, _, _, _, _, hr, _⟩ := h
  obtain ⟨h1, h2⟩ := ho
  rcases h2 with ⟨rfl, _⟩ | ⟨g', cap, cur, hv, _, hh, _⟩
  · cases e0
  · rw [hv] at e0
    simp only [Value.ownBlock, Option.some.injEq] at e0
    subst e0
    rw [hr] at hh
    cases hh
theorem LpD.iter {w wx wy : World} {mb L : Nat} {set : List FiT} {es : List Int} {fd : List FiT} {vE vF : Value} {nE nF : Nat} {du : List FiT} {vD : Value} {nD : Nat} (h : LpD w wx mb L set es fd vE vF nE nF du vD nD) {r n : Nat} {D : Dt} {left : Lit → Bool} {cnt : Nat} (hr : wx.ranges Try.prog 3 (plainElem Try.prog 3) mb r n D left cnt) (hrb : w.heap.size ≤ r) (hg : wx.grownBy wy (some r)) : LpD w wy mb L set es fd vE vF nE nF du vD nD :=
  ⟨⟨h.q.b.grown hg h.q.b.size (fun k hk => by cases hk; exact hrb), h.q.mp.same (hg.block _ h.q.mp.lt (fun e => hr.ne (Option.some.inj e).symm)), h.q.lt,
    own_heap h.q.oe fun k _ hk ho => (hg.block k (heap_lt ho) (fun e => rng_ne hr h.q.oe (by rw [hk]; exact e.symm))).trans ho,
    own_heap h.q.of fun k _ hk ho => (hg.block k (heap_lt ho) (fun e => rng_ne hr h.q.of (by rw [hk]; exact e.symm))).trans ho⟩,
    own_heap h.od fun k _ hk ho => (hg.block k (heap_lt ho) (fun e => rng_ne hr h.od (by rw [hk]; exact e.symm))).trans ho, h.ne⟩
/-- What the loop over the map has gathered: what is due of what it has met. -/
structure DuR (set : List FiT) (t : Nat) (left : Lit → Bool) (du : List FiT) : Prop where
  nd : du.Pairwise fun a b => ¬ a = b
  mem : ∀ p, p ∈ du ↔ p ∈ set ∧ p.1 ≤ t ∧ left (.int .i64 p.2) = false
theorem du_zero {D : Dt} {set : List FiT} {t : Nat} (h : TellsL D set) : DuR set t (Maps.has D) [] := by
  refine ⟨List.Pairwise.nil, fun p => ⟨fun hp => (by cases hp), ?_⟩⟩
  rintro ⟨h1, _, h3⟩
  rw [h.has p.2] at h3
  have := setQ_mem.2 ⟨p.1, h1⟩
  rw [h3] at this
  cases this
theorem DuR.put {set : List FiT} {t tx : Nat} {x : Int} {left : Lit → Bool} {du : List FiT} (h : DuR set t left du) (hn : set.Pairwise fun a b => ¬ a.2 = b.2) (htx : (tx, x) ∈ set) (hle : tx ≤ t) (hl : left (.int .i64 x) = true) : DuR set t (fun z => left z && !z.sameKey (.int .i64 x)) (du ++ [(tx, x)]) := by
  constructor
  · rw [List.pairwise_append]
    refine ⟨h.nd, List.pairwise_singleton _ _, fun a ha b hb e => ?_⟩
    obtain rfl := List.mem_singleton.1 hb
    subst e
    have := ((h.mem _).1 ha).2.2
    rw [hl] at this
    cases this
  · intro p
    rw [List.mem_append, List.mem_singleton, h.mem p]
    constructor
    · rintro (⟨h1, h2, h3⟩ | rfl)
      · exact ⟨h1, h2, by simp [h3]⟩
      · exact ⟨htx, hle, by simp [Lit.sameKey]⟩
    · rintro ⟨h1, h2, h3⟩
      by_cases e : p.2 = x
      · exact Or.inr (nod_one hn h1 htx e)
      · exact Or.inl ⟨h1, h2, by simpa [Lit.sameKey, e] using h3⟩
theorem DuR.skip {set : List FiT} {t tx : Nat} {x : Int} {left : Lit → Bool} {du : List FiT} (h : DuR set t left du) (hn : set.Pairwise fun a b => ¬ a.2 = b.2) (htx : (tx, x) ∈ set) (hle : ¬ tx ≤ t) : DuR set t (fun z => left z && !z.sameKey (.int .i64 x)) du := by
  refine ⟨h.nd, fun p => ?_⟩
  rw [h.mem p]
  constructor
  · rintro ⟨h1, h2, h3⟩
    exact ⟨h1, h2, by simp [h3]⟩
  · rintro ⟨h1, h2, h3⟩
    by_cases e : p.2 = x
    · have := nod_one hn h1 htx e
      subst this
      exact absurd h2 hle
    · exact ⟨h1, h2, by simpa [Lit.sameKey, e] using h3⟩
theorem DuR.all {set : List FiT} {t : Nat} {left : Lit → Bool} {du : List FiT} (h : DuR set t left du) (hl : ∀ kl, left kl = false) : ∀ x, x ∈ du ↔ x ∈ dueL t set := fun x => by
  rw [h.mem x]
  unfold dueL
  rw [List.mem_filter, hl, decide_eq_true_eq]
  exact ⟨fun h => ⟨h.1, h.2.1⟩, fun h => ⟨h.1, h.2, rfl⟩⟩
set_option maxHeartbeats 1000000 in
set_option maxRecDepth 100000 in
theorem kplay_bad (ad : Option Addr) (cap n : Nat) (w : World) (h : 400 < n) (hn : n ≤ 9223372036854775807) :
    Calls Try.prog 10 #[.slice ad n cap] w fun e w' => BadK e ∧ w = w' := by
  have hd : decide ((400 : Int) < (n : Int)) = true := decide_eq_true (by omega)
  go_enter Try.func10, Try.ntmps10
  go_wp2_with fail
  refine bodyPost_ret (v := .tuple #[.slice none 0 0, .slice none 0 0, .int .i64 0, .int .i64 2]) (by simp [results, Try.results10, go_sem]) rfl ?_
  exact ⟨rfl, rfl⟩
set_option maxHeartbeats 8000000 in
set_option maxRecDepth 100000 in
theorem kplay_ok {ad : Option Addr} {cap n : Nat} {ops : List TmT} (w : World) (HA : Hid (shT.At w ad cap ops)) (hm : Hid (ops.length = n)) (hn : n ≤ 400) (HW : Hid (∀ o ∈ ops, WfI o.i)) :
    Calls Try.prog 10 #[.slice ad n cap] w fun e w' => ∃ ra rc fa fc, e = .returned (.tuple #[.slice ra n rc, .slice fa (runT newT ops).fired.length fc, .int .i64 ((runT newT ops).set.length : Int), .int .i64 0]) ∧ shI.At w' ra rc (errsT newT ops) ∧ shF.At w' fa fc (runT newT ops).fired ∧ Below w.heap.size w w' := by
  obtain ⟨i0, hi, hz0, hz1, hz2⟩ := info_parts info_errno
  obtain ⟨i1, hj, hy0, hy1, hy2⟩ := info_parts info_fi
  have hmk := @run_makeMap Try.prog
  have hd : decide ((400 : Int) < (n : Int)) = false := decide_eq_false (by omega)
  go_enter Try.func10, Try.ntmps10
  go_wp2_with fail
  have L0 : Hid (LpQ w (w.alloc (.map #[] 0)) w.heap.size 0 [] [] [] (.slice none 0 0) (.slice none 0 0) 0 0) := Lib.hid ⟨below_alloc _ _, map_newW w, Nat.le_refl _, World.ownsRow_nil _ _ _ _, World.ownsRow_nil _ _ _ _⟩
  clear hmk
  obtain ⟨mb, hmb⟩ : ∃ mb, w.heap.size = mb := ⟨_, rfl⟩
  have L1 : Hid (LpQ w (w.alloc (.map #[] 0)) mb 0 [] [] [] (.slice none 0 0) (.slice none 0 0) 0 0) := Lib.hid (hmb ▸ L0.out)
  rw [hmb]
  generalize w.alloc (.map #[] 0) = wz at L1 ⊢
  clear L0 hmb hd
  go_loopw [6, 8, 9, 26] (fun v a f i wr => ∃ (k : Nat) (ra : Option Addr) (rc : Nat) (fa : Option Addr) (fc : Nat), k ≤ n ∧ i = .int .i64 k ∧ v = .int .i64 ((runT newT (ops.take k)).now : Int) ∧ a = .slice ra k rc ∧ f = .slice fa (runT newT (ops.take k)).fired.length fc ∧ Hid (LpQ w wr mb k (runT newT (ops.take k)).set (errsT newT (ops.take k)) (runT newT (ops.take k)).fired a f k (runT newT (ops.take k)).fired.length)) (fun _ _ _ i _ => n - (intOf i).toNat)
  case atStart => exact ⟨0, none, 0, none, 0, Nat.zero_le _, rfl, rfl, rfl, rfl, L1⟩
  case round =>
    clear L1
    obtain ⟨k, ra, rc, fa, fc, hk, rfl, rfl, rfl, rfl, HL⟩ := hrel
    by_cases hlt : k < n
    · obtain ⟨o, ho⟩ : ∃ o, ops[k]? = some o := ⟨ops[k]'(by rw [hm.out]; exact hlt), List.getElem?_eq_getElem _⟩
      have hnx := run_next ho newT
      have hne := errs_next ho newT
      have hg := good_run (ops := ops.take k) good_new
      have hbd := bnd_run (ops := ops.take k) bnd_new (fun o ho => HW.out o (List.mem_of_mem_take ho))
      rw [List.length_take, hm.out, Nat.min_eq_left hk, Nat.zero_add] at hbd
      have hel : (errsT newT (ops.take k)).length = k := by rw [errs_len, List.length_take, hm.out]; omega
      have hwo := HW.out o (List.mem_of_getElem? ho)
      obtain ⟨st, hst⟩ : ∃ st, runT newT (ops.take k) = st := ⟨_, rfl⟩
      obtain ⟨es, hes⟩ : ∃ es, errsT newT (ops.take k) = es := ⟨_, rfl⟩
      obtain ⟨fl, hfl⟩ : ∃ fl, st.fired.length = fl := ⟨_, rfl⟩
      rw [hst, hes] at HL
      rw [hfl] at HL
      rw [hst] at hnx hne hg hbd ⊢
      rw [hes] at hne hel
      rw [hfl]
      obtain ⟨b, off, rfl, hb, e0, e1, e2⟩ := at_tm HA.out ho
      have g0 := (HL.out.b.cell (p := ⟨b, off + k * 3, none⟩) hb).trans e0
      have g1 := (HL.out.b.cell (p := ⟨b, off + k * 3 + 1, none⟩) hb).trans e1
      have g2 := (HL.out.b.cell (p := ⟨b, off + k * 3 + 2, none⟩) hb).trans e2
      have hbr : b < wr.heap.size := Nat.lt_of_lt_of_le hb HL.out.b.size
      obtain ⟨kd, id, tk⟩ := o
      simp only at g0 g1 g2 hwo
      have HG := Lib.hid hg
      have HBD := Lib.hid hbd
      have HNX := Lib.hid hnx
      have HNE := Lib.hid hne
      have HEL := Lib.hid hel
      have HFL := Lib.hid hfl
      have hnow := hbd.now
      have hcnt := hbd.cnt
      rw [hfl] at hcnt
      have WFid : (Lit.int .i64 id).wf = true := hwo
      have LB := Lib.hid (HL.out.step (below_alloc wr (.cells #[.int .i64 kd, .int .i64 id, .int .i64 tk] 36)))
      have BX := Lib.hid (heap_alloc_new wr (.cells #[.int .i64 kd, .int .i64 id, .int .i64 tk] 36))
      have hLm : k < maxLen := by unfold maxLen; omega
      obtain ⟨sq, hsq⟩ : ∃ sq, setQ st.set id = sq := ⟨_, rfl⟩
      obtain ⟨D, o1, T1⟩ := LB.out.mp
      have O1 := Lib.hid o1
      have hh1 : Maps.has D (.int .i64 id) = sq := by rw [T1.has id, hsq]
      have HSQ := Lib.hid hsq
      have HTT := Lib.hid T1
      clear e0 e1 e2 ho hnx hne hg hbd hel hwo o1 T1 hst hes hfl hsq HL
      obtain ⟨s2, hs2⟩ : ∃ s2, stepT st ⟨kd, id, tk⟩ = s2 := ⟨_, rfl⟩
      obtain ⟨x, hx⟩ : ∃ x, errT st ⟨kd, id, tk⟩ = x := ⟨_, rfl⟩
      rw [hs2] at HNX
      rw [hx] at HNE
      obtain ⟨t0, t1, t2⟩ := trio_at BX.out
      have hbw := heap_lt BX.out
      go_upto_block 2 with (first
        | (at_lookup; refine wpList_lookup_own_ok_int _ rfl _ _ 34 rfl 3 3 .i64 lawI Try.underlying34 Try.underlying3 (zeroI _) mb k D rfl O1.out _ (.int .i64 id) rfl (keyOf_int_mk Try.underlying3 WFid) ?_; intro cl _ _)
        | fail)
      go_cut [6, 9, 12, 15, 16, 17, 19] from 41 to 140 (fun v f y _ _ _ _ wy => v = .int .i64 (s2.now : Int) ∧ ∃ fa' fc', f = .slice fa' s2.fired.length fc' ∧ y = .int .i64 x ∧ Hid (LpQ w wy mb (k + 1) s2.set es s2.fired (.slice ra k rc) (.slice fa' s2.fired.length fc') k s2.fired.length))
      case first =>
        by_cases kl : kd < 1
        · have hx2 : errT st ⟨kd, id, tk⟩ = 5 := by simp [errT, show ¬ kd = 1 by omega, show ¬ kd = 2 by omega, show ¬ kd = 3 by omega]
          have hs2' : stepT st ⟨kd, id, tk⟩ = st := by unfold stepT; rw [if_neg (by rw [hx2]; decide)]
          rw [hx2] at hx
          rw [hs2'] at hs2
          subst hx hs2
          clear hx2 hs2'
          go_wp2_with fail
          go_meet
          exact ⟨rfl, fa, fc, by rw [HFL.out], rfl, Lib.hid (by rw [HFL.out]; exact LB.out.more (Nat.le_succ _))⟩
        by_cases kg : 3 < kd
        · have hx2 : errT st ⟨kd, id, tk⟩ = 5 := by simp [errT, show ¬ kd = 1 by omega, show ¬ kd = 2 by omega, show ¬ kd = 3 by omega]
          have hs2' : stepT st ⟨kd, id, tk⟩ = st := by unfold stepT; rw [if_neg (by rw [hx2]; decide)]
          rw [hx2] at hx
          rw [hs2'] at hs2
          subst hx hs2
          clear hx2 hs2'
          go_wp2_with fail
          go_meet
          exact ⟨rfl, fa, fc, by rw [HFL.out], rfl, Lib.hid (by rw [HFL.out]; exact LB.out.more (Nat.le_succ _))⟩
        have hk3 : kd = 1 ∨ kd = 2 ∨ kd = 3 := by omega
        rcases hk3 with rfl | rfl | rfl
        · by_cases r1 : tk < 1
          · have hx2 : errT st ⟨1, id, tk⟩ = 2 := by simp [errT]; omega
            have hs2' : stepT st ⟨1, id, tk⟩ = st := by unfold stepT; rw [if_neg (by rw [hx2]; decide)]
            rw [hx2] at hx
            rw [hs2'] at hs2
            subst hx hs2
            clear hx2 hs2'
            go_wp2_with fail
            go_meet
            exact ⟨rfl, fa, fc, by rw [HFL.out], rfl, Lib.hid (by rw [HFL.out]; exact LB.out.more (Nat.le_succ _))⟩
          by_cases r2 : 511 < tk
          · have hx2 : errT st ⟨1, id, tk⟩ = 2 := by simp [errT]; omega
            have hs2' : stepT st ⟨1, id, tk⟩ = st := by unfold stepT; rw [if_neg (by rw [hx2]; decide)]
            rw [hx2] at hx
            rw [hs2'] at hs2
            subst hx hs2
            clear hx2 hs2'
            go_wp2_with fail
            go_meet
            exact ⟨rfl, fa, fc, by rw [HFL.out], rfl, Lib.hid (by rw [HFL.out]; exact LB.out.more (Nat.le_succ _))⟩
          cases sq with
          | true =>
            have hx2 : errT st ⟨1, id, tk⟩ = 6 := by simp [errT, HSQ.out]; omega
            have hs2' : stepT st ⟨1, id, tk⟩ = st := by unfold stepT; rw [if_neg (by rw [hx2]; decide)]
            rw [hx2] at hx
            rw [hs2'] at hs2
            subst hx hs2
            clear hx2 hs2'
            go_wp2_with fail
            go_meet
            exact ⟨rfl, fa, fc, by rw [HFL.out], rfl, Lib.hid (by rw [HFL.out]; exact LB.out.more (Nat.le_succ _))⟩
          | false =>
            obtain ⟨n', rfl⟩ : ∃ n' : Nat, tk = n' := ⟨tk.toNat, by omega⟩
            have hx2 : errT st ⟨1, id, (n' : Int)⟩ = 0 := by simp [errT, HSQ.out]; omega
            have hs2' : stepT st ⟨1, id, (n' : Int)⟩ = addT st id n' := by unfold stepT; rw [if_pos hx2]; simp [doT]
            rw [hx2] at hx
            rw [hs2'] at hs2
            subst hx hs2
            clear hx2 hs2'
            have hwr : IntKind.i64.wrap ((st.now : Int) + (n' : Int)) = (st.now : Int) + (n' : Int) := by rw [IntKind.wrap_i64]; omega
            have hput := HTT.out.put (i := id) (t := st.now + n') O1.out.isMap (O1.out.tidy lawI) HSQ.out
            rw [show ((st.now + n' : Nat) : Int) = (st.now : Int) + (n' : Int) by omega] at hput
            have HPT := Lib.hid hput
            have WFt : (Lit.int .i64 ((st.now : Int) + (n' : Int))).wf = true := WalkArith.wf_i64 (by omega)
            clear hput
            go_wp2_with (first
              | (at_mapUpdate; refine wpList_mapUpdate_own _ rfl _ _ _ 34 rfl 3 3 lawI Try.underlying34 _ mb k D rfl O1.out hLm _ _ (.int .i64 id) rfl rfl (keyOf_int_mk Try.underlying3 WFid) (.lit (.int .i64 ((st.now : Int) + (n' : Int)))) [] (plainElem_int Try.underlying3 WFt) ?_; intro w5 hown5 hg5; have L5 := Lib.hid (LB.out.turn hg5 ⟨_, hown5, HPT.out⟩); clear hown5 hg5)
              | fail)
            go_meet
            exact ⟨rfl, fa, fc, by show _ = Value.slice fa st.fired.length fc; rw [HFL.out], rfl, Lib.hid (by show LpQ w _ mb (k + 1) _ es st.fired _ (.slice fa st.fired.length fc) k st.fired.length; rw [HFL.out]; exact L5.out)⟩
        · cases sq with
          | false =>
            have hx2 : errT st ⟨2, id, tk⟩ = 3 := by simp [errT, HSQ.out]
            have hs2' : stepT st ⟨2, id, tk⟩ = st := by unfold stepT; rw [if_neg (by rw [hx2]; decide)]
            rw [hx2] at hx
            rw [hs2'] at hs2
            subst hx hs2
            clear hx2 hs2'
            go_wp2_with fail
            go_meet
            exact ⟨rfl, fa, fc, by rw [HFL.out], rfl, Lib.hid (by rw [HFL.out]; exact LB.out.more (Nat.le_succ _))⟩
          | true =>
            have hx2 : errT st ⟨2, id, tk⟩ = 0 := by simp [errT, HSQ.out]
            have hs2' : stepT st ⟨2, id, tk⟩ = cutT st id := by unfold stepT; rw [if_pos hx2]; simp [doT]
            rw [hx2] at hx
            rw [hs2'] at hs2
            subst hx hs2
            clear hx2 hs2'
            have HDL := Lib.hid (HTT.out.del (i := id) (O1.out.tidy lawI) HG.out.nod)
            go_wp2_with (first
              | (at_delete; refine wpList_delete_own _ rfl _ _ 34 3 rfl 3 lawI Try.underlying34 _ mb k D rfl O1.out _ (.int .i64 id) rfl (keyOf_int_mk Try.underlying3 WFid) ?_; intro w5 hown5 hturn5; have L5 := Lib.hid (LB.out.turn hturn5.grown ⟨_, hown5, HDL.out⟩); clear hown5 hturn5)
              | fail)
            go_meet
            exact ⟨rfl, fa, fc, by show _ = Value.slice fa st.fired.length fc; rw [HFL.out], rfl, Lib.hid (by show LpQ w _ mb (k + 1) _ es st.fired _ (.slice fa st.fired.length fc) k st.fired.length; rw [HFL.out]; exact L5.out.more (Nat.le_succ _))⟩
        · by_cases r1 : tk < 0
          · have hx2 : errT st ⟨3, id, tk⟩ = 2 := by simp [errT]; omega
            have hs2' : stepT st ⟨3, id, tk⟩ = st := by unfold stepT; rw [if_neg (by rw [hx2]; decide)]
            rw [hx2] at hx
            rw [hs2'] at hs2
            subst hx hs2
            clear hx2 hs2'
            go_wp2_with fail
            go_meet
            exact ⟨rfl, fa, fc, by rw [HFL.out], rfl, Lib.hid (by rw [HFL.out]; exact LB.out.more (Nat.le_succ _))⟩
          by_cases r2 : 2000 < tk
          · have hx2 : errT st ⟨3, id, tk⟩ = 2 := by simp [errT]; omega
            have hs2' : stepT st ⟨3, id, tk⟩ = st := by unfold stepT; rw [if_neg (by rw [hx2]; decide)]
            rw [hx2] at hx
            rw [hs2'] at hs2
            subst hx hs2
            clear hx2 hs2'
            go_wp2_with fail
            go_meet
            exact ⟨rfl, fa, fc, by rw [HFL.out], rfl, Lib.hid (by rw [HFL.out]; exact LB.out.more (Nat.le_succ _))⟩
          obtain ⟨n', rfl⟩ : ∃ n' : Nat, tk = n' := ⟨tk.toNat, by omega⟩
          have hx2 : errT st ⟨3, id, (n' : Int)⟩ = 0 := by simp [errT]; omega
          have hs2' : stepT st ⟨3, id, (n' : Int)⟩ = tickT st n' := by unfold stepT; rw [if_pos hx2]; simp [doT]
          rw [hx2] at hx
          rw [hs2'] at hs2
          subst hx hs2
          clear hx2 hs2'
          obtain ⟨t, ht⟩ : ∃ t, st.now + n' = t := ⟨_, rfl⟩
          have hwr : IntKind.i64.wrap ((st.now : Int) + (n' : Int)) = (t : Int) := by rw [IntKind.wrap_i64]; omega
          have HT := Lib.hid ht
          clear g0 g1 g2 hbr
          generalize wr.alloc (.cells #[.int .i64 3, .int .i64 id, .int .i64 (n' : Int)] 36) = wy at LB O1 BX t0 t1 t2 hbw ⊢
          generalize hob : wr.heap.size = ob at BX t0 t1 t2 hbw ⊢
          have HOB := Lib.hid hob
          clear hob
          go_wp2_with (first
            | (at_range; refine wpList_range_own _ rfl _ 34 rfl 3 3 lawI Try.underlying34 _ mb k D rfl O1.out ?_; intro w6 hrg0 hg0 hs0)
            | fail)
          have hb6 : Below wy.heap.size wy w6 := (Below.refl wy.heap.size wy).grown hg0 (Nat.le_refl _) (fun k hk => by cases hk)
          have hr0 : w.heap.size ≤ wy.heap.size := LB.out.b.size
          have LD0 : Hid (LpD w w6 mb k st.set es st.fired (.slice ra k rc) (.slice fa fl fc) k fl [] (.slice none 0 0) 0) := Lib.hid ⟨LB.out.step hb6, World.ownsRow_nil _ _ _ _, fun g hg => by cases hg⟩
          have DR0 : Hid (DuR st.set t (Maps.has D) []) := Lib.hid (du_zero HTT.out)
          have hsz0 : Maps.size D = st.set.length := HTT.out.sz
          have hkn : k ≤ 400 := by omega
          have HBT : Hid (∀ p ∈ st.set, p.1 < 4611686018427387904) := Lib.hid fun p hp => by
            have h1 := (HG.out.near p hp).2
            omega
          generalize wy.heap.size = r0 at hrg0 hr0 ⊢
          clear hg0 hs0 hb6 LB O1 BX t0 t1 t2 hbw ht
          go_loopw [15] (fun d wx => ∃ (left : Lit → Bool) (cnt m : Nat) (da : Option Addr) (dc : Nat) (du : List FiT), d = .slice da m dc ∧ wx.ranges Try.prog 3 (plainElem Try.prog 3) mb r0 k D left cnt ∧ Hid (LpD w wx mb k st.set es st.fired (.slice ra k rc) (.slice fa fl fc) k fl du (.slice da m dc) m) ∧ Hid (DuR st.set t left du) ∧ Hid (du.length = m) ∧ m + cnt + fl ≤ k) (fun _ wx => wx.rangeLeft mb r0)
          case atStart => exact ⟨_, _, 0, none, 0, [], rfl, hrg0, LD0, DR0, Lib.hid rfl, by omega⟩
          case round =>
            clear hrg0 LD0 DR0
            obtain ⟨left, cnt, m, da, dc, du, rfl, hrg, HD, HR, HM, hmc⟩ := hrel
            go_wp2_with (first
              | (at_next; refine wpList_next_ranges_ii _ rfl _ rfl 3 3 .i64 .i64 lawI Try.underlying3 Try.underlying3 mb r0 k _ _ _ rfl hrg ?_ ?_)
              | fail)
            · intro _ hl0
              have HDL := Lib.hid (HR.out.all hl0)
              have HB := Lib.hid (fun p hp => HBT.out p (HR.out.mem p |>.1 hp).1)
              have HN := Lib.hid HR.out.nd
              have HO := Lib.hid HD.out.od
              clear hrg HR hl0
              go_wp2_with (first
                | (go_at_call 19; (with_reducible refine (sort_row _ HO HM HB HN (by omega)).mono ?_); rintro e w8 ⟨rfl, ⟨l', hp', hm', ho'⟩, hg'⟩; obtain rfl : l' = dueL t st.set := lex_ext hp' (HG.out.srt.filter _) (fun x => (hm' x).trans (HDL.out x)); have D8 := Lib.hid (HD.out.growD hg' ho' (fun g hg => Or.inl hg)); clear hp' hm' ho' hg')
                | fail)
              clear HD HDL HB HN HO HM
              have hm8 : (dueL t st.set).length = m := by
                have h1 := D8.out.od.1
                rw [shF.flat_len] at h1
                have h2 : shF.size = 2 := rfl
                rw [h2] at h1
                omega
              have hst2 : (tickT st n').now = t ∧ (tickT st n').fired = st.fired ++ dueL t st.set ∧ (tickT st n').set = laterL t st.set := by
                refine ⟨HT.out, ?_, ?_⟩
                · simp only [tickT, HT.out]
                · simp only [tickT, HT.out]
              obtain ⟨dl, hdl⟩ : ∃ dl, dueL t st.set = dl := ⟨_, rfl⟩
              rw [hdl] at D8 hm8 hst2
              have HDM := Lib.hid hm8
              have HDU := Lib.hid hdl
              have HS2 := Lib.hid hst2
              have E0 : Hid (LpD w w8 mb k (outL ((dl.map (·.2)).take 0) st.set) es st.fired (.slice ra k rc) (.slice fa fl fc) k fl dl (.slice da m dc) m) := Lib.hid (by rw [List.take_zero, out_zero]; exact D8.out)
              clear D8 hm8 hst2 hdl
              go_loopw [61] (fun i wx => ∃ q : Nat, q ≤ m ∧ i = .int .i64 q ∧ Hid (LpD w wx mb k (outL ((dl.map (·.2)).take q) st.set) es st.fired (.slice ra k rc) (.slice fa fl fc) k fl dl (.slice da m dc) m)) (fun i _ => m - (intOf i).toNat)
              case atStart => exact ⟨0, Nat.zero_le _, rfl, E0⟩
              case round =>
                clear E0
                obtain ⟨q, hq, rfl, HLQ⟩ := hrel
                by_cases hqD : q < m
                · obtain ⟨⟨ta, ia⟩, hpr⟩ : ∃ pr, dl[q]? = some pr := ⟨dl[q]'(by rw [HDM.out]; exact hqD), List.getElem?_eq_getElem _⟩
                  have hmem := List.mem_of_getElem? hpr
                  rw [← HDU.out] at hmem
                  have hwfa := HBD.out.wf _ (List.mem_filter.1 hmem).1
                  simp only at hwfa
                  obtain ⟨fb, fo, rfl, hfbr, d0, d1⟩ := at_fi (Shape.At.own (S := shF) HLQ.out.od HDM.out) hpr
                  simp only at d0 d1
                  have WFa : (Lit.int .i64 ia).wf = true := hwfa
                  have L9 := Lib.hid (HLQ.out.step (below_alloc _ (.cells #[.int .i64 (ta : Int), .int .i64 ia] 31)))
                  obtain ⟨D9, o1, T1⟩ := L9.out.q.mp
                  have O9 := Lib.hid o1
                  have hdel := T1.del (i := ia) (o1.tidy lawI) (nod_mono HG.out.nod _)
                  have hids : (dl.map (·.2))[q]? = some ia := by rw [List.getElem?_map, hpr]; rfl
                  rw [out_next hids] at hdel
                  have HDEL := Lib.hid hdel
                  clear hmem hwfa o1 T1 hdel hids hpr
                  go_wp2_with (first
                    | (at_delete; refine wpList_delete_own _ rfl _ _ 34 3 rfl 3 lawI Try.underlying34 _ mb k D9 rfl O9.out _ (.int .i64 ia) rfl (keyOf_int_mk Try.underlying3 WFa) ?_; intro w10 hown10 hturn10; have L10 := Lib.hid (L9.out.turn hturn10.grown ⟨_, hown10, HDEL.out⟩); clear hown10 hturn10)
                    | fail)
                  go_roundw
                  case rel => exact ⟨q + 1, by omega, by go_num, L10⟩
                  case measure => simp [intOf]; omega
                · obtain rfl : q = m := by omega
                  have hLQ := HLQ.out
                  have e1 : (dl.map (·.2)).take q = dl.map (·.2) := List.take_of_length_le (by rw [List.length_map, HDM.out]; exact Nat.le_refl _)
                  have e2 : outL (dl.map (·.2)) st.set = laterL t st.set := by
                    rw [← HDU.out]
                    exact out_due HG.out.nod t _ (fun i => by rw [List.mem_map])
                  rw [e1, e2] at hLQ
                  have HLL := Lib.hid hLQ
                  have HSA := Lib.hid (Shape.At.own (S := shF) hLQ.od HDM.out)
                  clear hLQ e1 e2 HLQ
                  go_wp2_with (first
                    | (at_builtin; refine wpList_append_n shF rfl _ _ 24 rfl w.heap.size 31 i1 _ 16 Try.underlying24 hj hy0 hy1 hy2 rfl (.slice fa fl fc) fl st.fired dl HFL rfl HLL.out.q.of da q dc rfl HDM HSA.out (by unfold maxLen; omega) (by omega) HLL.out.q.b.size ?_; intro fa9 fc9 w9 own9 grow9 _; have L9 := Lib.hid (HLL.out.q.growF grow9 own9); clear own9 grow9)
                    | fail)
                  obtain rfl := HOB.out
                  go_meet
                  have hF : (tickT st n').fired.length = fl + q := by rw [HS2.out.2.1, List.length_append, HFL.out, HDM.out]
                  refine ⟨by rw [HS2.out.1], fa9, fc9, by rw [hF], rfl, Lib.hid ?_⟩
                  rw [hF, HS2.out.2.1, HS2.out.2.2]
                  exact L9.out.more (Nat.le_succ _)
            · intro x c w5 cnt1 hwx hwc hlx hat hrg1 hlt1 hg1 hs1 hen
              have hhas := has_true_of_atKey hat
              rw [HTT.out.has x] at hhas
              obtain ⟨tx, htx⟩ := setQ_mem.1 hhas
              have hcx : c = (tx : Int) := by
                have h5 := hat .nil
                rw [HTT.out.at' tx x _ htx] at h5
                cases h5
                rfl
              subst hcx
              have D5 := Lib.hid (HD.out.iter hrg hr0 hg1)
              have HMS := Lib.hid hrg.left_eq
              clear hhas hat hwx hwc hg1 hs1 hrg HD
              by_cases hle : tx ≤ t
              · have hcd : decide ((tx : Int) ≤ (t : Int)) = true := decide_eq_true (by omega)
                have R7 := Lib.hid (HR.out.put HG.out.nod htx hle hlx)
                have bx := below_alloc w5 (.cells #[.int .i64 (tx : Int), .int .i64 x] 31)
                have DY := Lib.hid (D5.out.step bx)
                have RY := Lib.hid (hrg1.alloc (.cells #[.int .i64 (tx : Int), .int .i64 x] 31))
                have NY := Lib.hid (Shape.At.lit (S := shF) (w := w5.alloc (.cells #[.int .i64 (tx : Int), .int .i64 x] 31)) (cap := 1) [(tx, x)] (heap_alloc_new w5 (.cells #[.int .i64 (tx : Int), .int .i64 x] 31)))
                clear bx hrg1 HR hlx htx
                go_wp2_with (first
                  | (at_builtin; refine wpList_append_n shF rfl _ _ 24 rfl w.heap.size 31 i1 _ 16 Try.underlying24 hj hy0 hy1 hy2 rfl (.slice da m dc) m du [(tx, x)] HM rfl DY.out.od (some ⟨w5.heap.size, 0, none⟩) 1 1 rfl (Lib.hid rfl) NY.out (by unfold maxLen; omega) (by omega) DY.out.q.b.size ?_; intro da7 dc7 w7 own7 grow7 new7; have R8 := Lib.hid (RY.out.kept grow7 (fun e => own_nemapW DY.out.od DY.out.q.mp mb e.symm rfl) (rng_ne RY.out DY.out.od)); have D7 := Lib.hid (DY.out.growD grow7 own7 new7); clear own7 grow7 new7)
                  | fail)
                go_roundw
                case rel => exact ⟨_, cnt1, m + 1, da7, dc7, du ++ [(tx, x)], rfl, R8.out, D7, R7, Lib.hid (by rw [List.length_append, HM.out]; rfl), by omega⟩
                case measure => rw [R8.out.left_eq, HMS.out]; exact hlt1
              · have hcd : decide ((tx : Int) ≤ (t : Int)) = false := decide_eq_false (by omega)
                have R7 := Lib.hid (HR.out.skip HG.out.nod htx hle)
                have HM1 := Lib.hid hrg1.left_eq
                have RY := Lib.hid hrg1
                clear HR hlx htx hrg1
                go_wp2_with fail
                go_roundw
                case rel => exact ⟨_, cnt1, m, da, dc, du, rfl, RY.out, D5, R7, HM, by omega⟩
                case measure => rw [HM1.out, HMS.out]; exact hlt1
      case rest =>
        obtain ⟨rfl, fa', fc', rfl, rfl, HQ⟩ := hcut
        have NX := Lib.hid (Shape.At.lit (S := shI) (w := wc.alloc (.cells #[.int .i64 x] 25)) (cap := 1) [x] (heap_alloc_new wc (.cells #[.int .i64 x] 25)))
        have BY := Lib.hid (HQ.out.step (below_alloc wc (.cells #[.int .i64 x] 25)))
        go_wp2_with (first
          | (at_builtin; refine wpList_append_n shI rfl _ _ 23 rfl w.heap.size 25 i0 _ 8 Try.underlying23 hi hz0 hz1 hz2 rfl (.slice ra k rc) k es [x] HEL rfl BY.out.oe (some ⟨wc.heap.size, 0, none⟩) 1 1 rfl (Lib.hid rfl) NX.out (by unfold maxLen; omega) (by omega) BY.out.b.size ?_; intro ra7 rc7 w7 own7 grow7 _; have L7 := Lib.hid (BY.out.growE grow7 own7); clear own7 grow7)
          | fail)
        go_roundw
        case rel => exact ⟨k + 1, ra7, rc7, fa', fc', by omega, by go_num, by rw [HNX.out], rfl, by rw [HNX.out], Lib.hid (by rw [HNX.out, HNE.out]; exact L7.out)⟩
        case measure => simp [intOf]; omega
    · obtain rfl : k = n := by omega
      have e : ops.take k = ops := by rw [← hm.out, List.take_length]
      rw [e] at HL
      rw [e]
      obtain ⟨D, o1, T1⟩ := HL.out.mp
      have hlenm : ∀ ty : TypeId, (Builtin.len_ #[34] ty #[.map (some mb)]).run Try.prog wr = .ok (.int .i64 ((runT newT ops).set.length : Int)) wr := fun ty => by
        have := o1.len Try.underlying34 ty
        rw [T1.sz] at this
        exact this
      have hel : (errsT newT ops).length = k := by rw [errs_len, hm.out]
      have HEO := Lib.hid (Shape.At.own (S := shI) HL.out.oe hel)
      have HFO := Lib.hid (Shape.At.own (S := shF) HL.out.of rfl)
      have HB := Lib.hid HL.out.b
      clear o1 T1 D hlt hk e HL hel
      go_wp2_with fail
      refine bodyPost_ret (v := .tuple #[.slice ra k rc, .slice fa (runT newT ops).fired.length fc, .int .i64 ((runT newT ops).set.length : Int), .int .i64 0]) (by simp [results, Try.results10, go_sem]) rfl ?_
      exact ⟨ra, rc, fa, fc, rfl, HEO.out, HFO.out, HB.out⟩
end Go.Proofs.Ytnnphmpodcmmoaa
