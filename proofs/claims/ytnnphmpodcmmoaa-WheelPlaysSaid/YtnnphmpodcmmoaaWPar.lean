/- WheelParts: so many ticks at once are one behind the other. -/
import Derived.Test.YtnnphmpodcmmoaaWhlJ
import Derived.Test.YtnnphmpodcmmoaaWhlO
import Derived.Test.YtnnphmpodcmmoaaOne
namespace Go.Proofs.Ytnnphmpodcmmoaa
open Go.RowKit

def parS (acc : List TmT) (o : TmT) : List TmT := if o.k = 3 ∧ 1 < o.n ∧ o.n ≤ 2000 ∧ acc.length < 360 then acc ++ [⟨3, 0, 1⟩, ⟨3, 0, o.n - 1⟩] else acc ++ [o]
def parT (ops : List TmT) : List TmT := ops.foldl parS []
theorem par_next {ops : List TmT} {k : Nat} {o : TmT} (h : ops[k]? = some o) : parT (ops.take (k + 1)) = parS (parT (ops.take k)) o := by
  rw [List.take_add_one, h]
  unfold parT
  rw [List.foldl_append]
  rfl
theorem par_len : ∀ (ops acc : List TmT), (ops.foldl parS acc).length ≤ acc.length + ops.length + 361 ∧ acc.length + ops.length ≤ (ops.foldl parS acc).length := by
  have h : ∀ (ops acc : List TmT), (ops.foldl parS acc).length ≤ max acc.length 361 + ops.length ∧ acc.length + ops.length ≤ (ops.foldl parS acc).length := by
    intro ops
    induction ops with
    | nil => intro acc; simp; omega
    | cons o r ih =>
      intro acc
      rw [List.foldl_cons, List.length_cons]
      have := ih (parS acc o)
      unfold parS at this ⊢
      split at this
      · rename_i hc
        rw [if_pos hc]
        rw [List.length_append] at this
        simp only [List.length_cons, List.length_nil] at this
        omega
      · rename_i hc
        rw [if_neg hc]
        rw [List.length_append] at this
        simp only [List.length_cons, List.length_nil] at this
        omega
  intro ops acc
  have := h ops acc
  omega
theorem par_run : ∀ (ops acc : List TmT), GoodT (runT newT acc) → runT newT (ops.foldl parS acc) = runT (runT newT acc) ops
  | [], _, _ => rfl
  | o :: r, acc, hg => by
    have e : runT newT (parS acc o) = stepT (runT newT acc) o := by
      unfold parS
      split
      · rename_i hc
        obtain ⟨h1, h2, h3, _⟩ := hc
        rw [run_append]
        obtain ⟨kd, id, tk⟩ := o
        simp only at h1 h2 h3
        subst h1
        have e1 : stepT (runT newT acc) ⟨3, 0, 1⟩ = tickT (runT newT acc) 1 := by simp [stepT, errT, doT]
        have e2 : ∀ s : StT, stepT s ⟨3, 0, tk - 1⟩ = tickT s (tk - 1).toNat := fun s => by
          have : errT s ⟨3, 0, tk - 1⟩ = 0 := by simp [errT]; omega
          simp [stepT, this, doT]
        have e3 : stepT (runT newT acc) ⟨3, id, tk⟩ = tickT (runT newT acc) tk.toNat := by
          have : errT (runT newT acc) ⟨3, id, tk⟩ = 0 := by simp [errT]; omega
          simp [stepT, this, doT]
        show stepT (stepT (runT newT acc) ⟨3, 0, 1⟩) ⟨3, 0, tk - 1⟩ = _
        rw [e1, e2, e3, tick_tick hg]
        congr 1
        omega
      · rw [run_append]
        rfl
    rw [List.foldl_cons, par_run r (parS acc o) (by rw [e]; exact good_step hg o), e]
    rfl
theorem par_wf : ∀ (ops acc : List TmT), (∀ o ∈ acc, WfI o.i) → (∀ o ∈ ops, WfI o.i) → ∀ o ∈ ops.foldl parS acc, WfI o.i
  | [], _, h, _ => h
  | o :: r, acc, h, hw => by
    rw [List.foldl_cons]
    refine par_wf r (parS acc o) (fun x hx => ?_) (fun x hx => hw x (List.mem_cons_of_mem _ hx))
    unfold parS at hx
    split at hx
    · rcases List.mem_append.1 hx with h1 | h1
      · exact h x h1
      · simp only [List.mem_cons, List.not_mem_nil, or_false] at h1
        have h0 : WfI 0 := by unfold WfI; decide
        rcases h1 with rfl | rfl <;> exact h0
    · rcases List.mem_append.1 hx with h1 | h1
      · exact h x h1
      · simp only [List.mem_cons, List.not_mem_nil, or_false] at h1
        rw [h1]
        exact hw o List.mem_cons_self
/-- A call of Play of which only its error is looked at. -/
def SomeOut (w : World) (u : Int) (e : Ending) (w' : World) : Prop := ∃ ra m rc fa F fc N, e = .returned (.tuple #[.slice ra m rc, .slice fa F fc, .int .i64 N, .int .i64 u]) ∧ Below w.heap.size w w'
theorem play_some {ops : List TmT} {n : Nat} (hm : ops.length = n) (hn : n ≤ 9223372036854775807) (HW : ∀ o ∈ ops, WfI o.i) : ∃ u : Int, (u = 0 ∨ u = 2) ∧ (n ≤ 400 → u = 0) ∧ (400 < n → u = 2) ∧ ∀ (w : World) (ad : Option Addr) (cap : Nat), Hid (shT.At w ad cap ops) → Calls Try.prog 9 #[.slice ad n cap] w (SomeOut w u) := by
  by_cases h : n ≤ 400
  · refine ⟨0, Or.inl rfl, fun _ => rfl, fun h' => by omega, fun w ad cap HA => (play_ok w HA (Lib.hid hm) h (Lib.hid HW)).mono ?_⟩
    rintro e w' ⟨E, fa, fc, rfl, _, _, h3⟩
    exact ⟨_, _, _, _, _, _, _, rfl, h3⟩
  · refine ⟨2, Or.inr rfl, fun h' => by omega, fun _ => rfl, fun w ad cap _ => (play_bad ad cap n w (by omega) hn).mono ?_⟩
    rintro e w' ⟨rfl, rfl⟩
    exact ⟨_, _, _, _, _, _, _, rfl, Below.refl _ _⟩
/-- A call of Play that has no error: what fired, how many are set. -/
def FirOut (w : World) (n F N : Nat) (fd : List FiT) (e : Ending) (w' : World) : Prop := ∃ ra fa fc, e = .returned (.tuple #[.slice ra n n, .slice fa F fc, .int .i64 (N : Int), .int .i64 0]) ∧ shF.At w' fa fc fd ∧ Below w.heap.size w w'
theorem play_fired {ops : List TmT} {n F N : Nat} {fd : List FiT} (hm : ops.length = n) (hn : n ≤ 400) (HW : ∀ o ∈ ops, WfI o.i) (hfd : (runT newT ops).fired = fd) (hF : fd.length = F) (hN : (runT newT ops).set.length = N) (w : World) (ad : Option Addr) (cap : Nat) (HA : Hid (shT.At w ad cap ops)) : Calls Try.prog 9 #[.slice ad n cap] w (FirOut w n F N fd) := by
  refine (play_ok w HA (Lib.hid hm) hn (Lib.hid HW)).mono ?_
  rintro e w' ⟨E, fa, fc, rfl, _, h2, h3⟩
  rw [hfd, hN, hF]
  rw [hfd] at h2
  exact ⟨_, fa, fc, rfl, h2, h3⟩
theorem tm_news (X : World) (a b c : Int) : ∀ j u, ([.int .i64 a, .int .i64 b, .int .i64 c] : List Value)[j]? = some u → (X.alloc (.cells #[.int .i64 a, .int .i64 b, .int .i64 c] 36)).cell? (Addr.add ⟨X.heap.size, 0, none⟩ j) = some u := fun j u h => by
  rw [Go.WideShapes.add_plain, Nat.zero_add, cell_of_row _ _ _ _ _ _ (heap_alloc_new X _), ← Array.getElem?_toList]
  exact h
theorem tm_one (a b c : Int) : ∀ u ∈ ([.int .i64 a, .int .i64 b, .int .i64 c] : List Value), u.oneCell' = true := fun u hu => by
  simp at hu
  rcases hu with rfl | rfl | rfl <;> rfl
theorem tm_two (X : World) (a b : TmT) (cap : Nat) : shT.At (X.alloc (.cells #[.int .i64 a.k, .int .i64 a.i, .int .i64 a.n, .int .i64 b.k, .int .i64 b.i, .int .i64 b.n] 36)) (some ⟨X.heap.size, 0, none⟩) cap [a, b] :=
  Shape.At.lit (S := shT) [a, b] (heap_alloc_new X _)
/-- The parts so far, in a row of the call's own. -/
structure LpR (w1 wx : World) (v : Value) (L : Nat) (l : List TmT) : Prop where
  b : Below w1.heap.size w1 wx
  o : wx.ownsRow w1.heap.size 36 3 v L (shT.flat l)
theorem LpR.step {w1 wx wy : World} {v : Value} {L : Nat} {l : List TmT} (h : LpR w1 wx v L l) (hb : Below wx.heap.size wx wy) : LpR w1 wy v L l := ⟨pstep h.b hb, own_step h.o hb⟩
theorem LpR.grown {w1 wx wy : World} {v v' : Value} {L L' : Nat} {l l' : List TmT} (h : LpR w1 wx v L l) (hg : wx.grownBy wy v.ownBlock) (ho : wy.ownsRow w1.heap.size 36 3 v' L' (shT.flat l')) : LpR w1 wy v' L' l' :=
  ⟨h.b.grown hg h.b.size (fun _ hk => (own_lt h.o hk).1), ho⟩
section
variable {ad : Option Addr} {cap n : Nat} {ops : List TmT}
set_option maxHeartbeats 4000000 in
set_option maxRecDepth 100000 in
theorem parts_any (w : World) (HA : Hid (shT.At w ad cap ops)) (hm : Hid (ops.length = n)) (hn : n ≤ 5864062014634) (HW : Hid (∀ o ∈ ops, WfI o.i)) :
    Calls Try.prog 5 #[.slice ad n cap] w fun e w' => e = .returned (.bool true) ∧ Below w.heap.size w w' := by
  obtain ⟨i0, hi, hz0, hz1, hz2⟩ := info_parts info_tm
  go_enter Try.func5, Try.ntmps5
  go_wp2_with (first
    | (go_at_call 13; (with_reducible refine (alive11_N _).mono ?_); rintro e w1 ⟨rfl, hb⟩; have B1 := Lib.hid hb; have A1 := Lib.hid (HA.out.step hb); clear hb)
    | fail)
  go_loopw [3, 18] (fun v i wr => ∃ (k L : Nat) (ra : Option Addr) (rc : Nat), k ≤ n ∧ i = .int .i64 k ∧ v = .slice ra L rc ∧ Hid ((parT (ops.take k)).length = L) ∧ Hid (LpR w1 wr v L (parT (ops.take k)))) (fun _ i _ => n - (intOf i).toNat)
  case atStart => exact ⟨0, 0, none, 0, Nat.zero_le _, rfl, rfl, Lib.hid rfl, Lib.hid ⟨Below.refl _ _, World.ownsRow_nil _ _ _ _⟩⟩
  case round =>
    obtain ⟨k, L, ra, rc, hk, rfl, rfl, HLN, HL⟩ := hrel
    have hlb := par_len (ops.take k) []
    have hLn : L ≤ k + 361 := by
      have h2 := HLN.out
      unfold parT at h2
      rw [List.length_take, hm.out, Nat.min_eq_left hk] at hlb
      simp only [List.length_nil] at hlb
      omega
    clear hlb
    by_cases hlt : k < n
    · obtain ⟨o, ho⟩ : ∃ o, ops[k]? = some o := ⟨ops[k]'(by rw [hm.out]; exact hlt), List.getElem?_eq_getElem _⟩
      have HNX := Lib.hid (par_next ho)
      obtain ⟨b, off, rfl, hb, e0, e1, e2⟩ := at_tm A1.out ho
      have g0 := (HL.out.b.cell (p := ⟨b, off + k * 3, none⟩) hb).trans e0
      have g1 := (HL.out.b.cell (p := ⟨b, off + k * 3 + 1, none⟩) hb).trans e1
      have g2 := (HL.out.b.cell (p := ⟨b, off + k * 3 + 2, none⟩) hb).trans e2
      have hbr : b < wr.heap.size := Nat.lt_of_lt_of_le hb HL.out.b.size
      obtain ⟨kd, id, tk⟩ := o
      simp only at g0 g1 g2
      obtain ⟨acc, hacc⟩ : ∃ acc, parT (ops.take k) = acc := ⟨_, rfl⟩
      rw [hacc] at HLN HL HNX
      clear e0 e1 e2 ho hacc
      have BX := below_alloc wr (.cells #[.int .i64 kd, .int .i64 id, .int .i64 tk] 36)
      have hhs : w1.heap.size ≤ wr.heap.size := HL.out.b.size
      by_cases hc : kd = 3 ∧ 1 < tk ∧ tk ≤ 2000 ∧ L < 360
      · obtain ⟨rfl, c1, c2, c3⟩ := hc
        have c3i : (L : Int) < 360 := by omega
        have hwt : IntKind.i64.wrap (tk - 1) = tk - 1 := by rw [IntKind.wrap_i64]; omega
        have HP : Hid (parS acc ⟨3, id, tk⟩ = acc ++ [⟨3, 0, 1⟩, ⟨3, 0, tk - 1⟩]) := Lib.hid (by unfold parS; rw [if_pos ⟨rfl, c1, c2, by rw [HLN.out]; exact c3⟩])
        have B2 := BX.trans ((below_alloc (wr.alloc (.cells #[.int .i64 3, .int .i64 id, .int .i64 tk] 36)) (.cells #[.int .i64 3, .int .i64 0, .int .i64 1, .int .i64 3, .int .i64 0, .int .i64 (tk - 1)] 36)).mono BX.size)
        have L2 := Lib.hid (HL.out.step B2)
        have N2 := Lib.hid (tm_two (wr.alloc (.cells #[.int .i64 3, .int .i64 id, .int .i64 tk] 36)) ⟨3, 0, 1⟩ ⟨3, 0, tk - 1⟩ 2)
        simp only [World.size_alloc] at N2
        clear BX B2
        go_wp2_with (first
          | (at_builtin; refine wpList_append_n shT rfl _ _ 22 rfl w1.heap.size 36 i0 _ 24 Try.underlying22 hi hz0 hz1 hz2 rfl (.slice ra L rc) L acc [⟨3, 0, 1⟩, ⟨3, 0, tk - 1⟩] HLN rfl L2.out.o (some ⟨wr.heap.size + 1, 0, none⟩) 2 2 rfl (Lib.hid rfl) N2.out (by unfold maxLen; omega) (by omega) (by simp; omega) ?_; intro ra5 rc5 w5 own5 grow5 _; have L5 := Lib.hid (L2.out.grown grow5 own5); clear own5 grow5)
          | fail)
        go_roundw
        case rel => exact ⟨k + 1, L + 2, ra5, rc5, by omega, by go_num, rfl, Lib.hid (by rw [HNX.out, HP.out, List.length_append, HLN.out]; rfl), Lib.hid (by rw [HNX.out, HP.out]; exact L5.out)⟩
        case measure => simp [intOf]; omega
      · have HP : Hid (parS acc ⟨kd, id, tk⟩ = acc ++ [⟨kd, id, tk⟩]) := Lib.hid (by unfold parS; rw [HLN.out, if_neg hc])
        have hc' : (kd == 3) = false ∨ (kd = 3 ∧ decide (1 < tk) = false) ∨ (kd = 3 ∧ decide (1 < tk) = true ∧ decide (tk ≤ 2000) = false) ∨ (kd = 3 ∧ decide (1 < tk) = true ∧ decide (tk ≤ 2000) = true ∧ decide ((L : Int) < 360) = false) := by
          by_cases d1 : kd = 3
          · by_cases d2 : 1 < tk
            · by_cases d3 : tk ≤ 2000
              · exact Or.inr (Or.inr (Or.inr ⟨d1, decide_eq_true d2, decide_eq_true d3, decide_eq_false (fun h => hc ⟨d1, d2, d3, by omega⟩)⟩))
              · exact Or.inr (Or.inr (Or.inl ⟨d1, decide_eq_true d2, decide_eq_false d3⟩))
            · exact Or.inr (Or.inl ⟨d1, decide_eq_false d2⟩)
          · exact Or.inl (by simpa using d1)
        have B2 := BX.trans ((below_alloc (wr.alloc (.cells #[.int .i64 kd, .int .i64 id, .int .i64 tk] 36)) (.cells #[.int .i64 kd, .int .i64 id, .int .i64 tk] 36)).mono BX.size)
        have L2 := Lib.hid (HL.out.step B2)
        have N2 := Lib.hid (tm_news (wr.alloc (.cells #[.int .i64 kd, .int .i64 id, .int .i64 tk] 36)) kd id tk)
        simp only [World.size_alloc] at N2
        have O2 := Lib.hid (tm_one kd id tk)
        have hfit : Builtin.nextslicecap (L + 1) L * 24 ≤ 281474976710656 := next_one (by omega)
        have HFL : Hid (shT.flat acc ++ [.int .i64 kd, .int .i64 id, .int .i64 tk] = shT.flat (acc ++ [⟨kd, id, tk⟩])) := Lib.hid (by rw [shT.flat_app]; rfl)
        clear BX B2 hc
        rcases hc' with h1 | ⟨rfl, h1⟩ | ⟨rfl, h1, h2⟩ | ⟨rfl, h1, h2, h3⟩
        all_goals go_wp2_with (first
          | (at_builtin; refine wpList_append_one _ rfl _ _ 22 rfl w1.heap.size 36 i0 _ 3 24 Try.underlying22 hi hz0 hz1 hz2 rfl (by decide) (.slice ra L rc) L _ rfl L2.out.o ⟨wr.heap.size + 1, 0, none⟩ 1 _ rfl rfl N2.out O2.out (by unfold maxLen; omega) hfit (by simp; omega) _ rfl ?_; intro g5 rc5 w5 own5 grow5 _ _; rw [HFL.out] at own5; have L5 := Lib.hid (L2.out.grown grow5 own5); clear own5 grow5)
          | fail)
        all_goals go_roundw
        all_goals first
          | exact ⟨k + 1, L + 1, some ⟨g5, 0, none⟩, rc5, by omega, by go_num, rfl, Lib.hid (by rw [HNX.out, HP.out, List.length_append, HLN.out]; rfl), Lib.hid (by rw [HNX.out, HP.out]; exact L5.out)⟩
          | (simp [intOf]; omega)
    · obtain rfl : k = n := by omega
      have e : ops.take k = ops := by rw [← hm.out, List.take_length]
      rw [e] at HLN HL
      have hrun : runT newT (parT ops) = runT newT ops := par_run ops [] good_new
      have hwf := par_wf ops [] (fun o ho => by cases ho) HW.out
      have A2 := Lib.hid (A1.out.step HL.out.b)
      have HB := Lib.hid (pstep B1.out HL.out.b)
      have P2 := Lib.hid (Shape.At.own (S := shT) HL.out.o HLN.out)
      have hLm : L ≤ 9223372036854775807 := by omega
      clear hlt hk HL e
      by_cases h1 : k ≤ 400
      · obtain ⟨fd, hfd⟩ : ∃ fd, (runT newT ops).fired = fd := ⟨_, rfl⟩
        obtain ⟨N, hN⟩ : ∃ N, (runT newT ops).set.length = N := ⟨_, rfl⟩
        obtain ⟨F, hF⟩ : ∃ F, fd.length = F := ⟨_, rfl⟩
        have HP1 := Lib.hid (play_fired hm.out h1 HW.out hfd hF hN)
        have hF4 : F ≤ 9223372036854775807 := by
          have := (bnd_run (ops := ops) bnd_new HW.out).cnt
          rw [hm.out, hfd, hF] at this
          omega
        by_cases h2 : L ≤ 400
        · have HP2 := Lib.hid (play_fired (fd := fd) (F := F) (N := N) HLN.out h2 hwf (by rw [hrun]; exact hfd) hF (by rw [hrun]; exact hN))
          have HF := Lib.hid hF
          clear hfd hN hF hrun hwf
          go_wp2_with (first
            | (go_at_call 9; (with_reducible refine (HP1.out _ ad cap A2).mono ?_); rintro e w2 ⟨ra2, fa, fc, rfl, hf, hb⟩; have B2 := Lib.hid (pstep HB.out hb); have P3 := Lib.hid (P2.out.step hb); have F2 := Lib.hid hf; clear hb hf)
            | (go_at_call 9; (with_reducible refine (HP2.out _ ra rc P3).mono ?_); rintro e w3 ⟨ra3, ga, gc, rfl, hf, hb⟩; have B3 := Lib.hid (pstep B2.out hb); have F3 := Lib.hid (F2.out.step hb); have G3 := Lib.hid hf; clear hb hf)
            | (go_at_call 12; (with_reducible refine (equalF _ HF F3 G3 hF4).mono ?_); rintro e w4 ⟨rfl, hb⟩; have B4 := Lib.hid (pstep B3.out hb); clear hb)
            | fail)
          go_ret
          exact ⟨rfl, B4.out⟩
        · have h2' : 400 < L := by omega
          clear hfd hN hF hrun hwf
          go_wp2_with (first
            | (go_at_call 9; (with_reducible refine (HP1.out _ ad cap A2).mono ?_); rintro e w2 ⟨ra2, fa, fc, rfl, hf, hb⟩; have B2 := Lib.hid (pstep HB.out hb); clear hb hf)
            | (go_at_call 9; (with_reducible refine (play_bad ra rc L _ h2' hLm).mono ?_); rintro e w3 ⟨rfl, rfl⟩)
            | fail)
          go_ret
          exact ⟨rfl, B2.out⟩
      · have h1' : 400 < k := by omega
        have hkm : k ≤ 9223372036854775807 := by omega
        obtain ⟨u, hu, _, _, HU⟩ := play_some HLN.out hLm hwf
        have HUU := Lib.hid HU
        clear hrun hwf HU
        rcases hu with rfl | rfl
        all_goals go_wp2_with (first
          | (go_at_call 9; (with_reducible refine (play_bad ad cap k _ h1' hkm).mono ?_); rintro e w2 ⟨rfl, rfl⟩)
          | (go_at_call 9; (with_reducible refine (HUU.out _ ra rc P2).mono ?_); rintro e w3 ⟨ra3, m3, rc3, fa3, F3, fc3, N3, rfl, hb⟩; have B3 := Lib.hid (pstep HB.out hb); clear hb)
          | fail)
        all_goals go_ret
        all_goals exact ⟨rfl, B3.out⟩
end
theorem wheelParts_walk (v : Value) (w : World) (h : ArgTms w v) (hl : lenOf v ≤ 5864062014634) : Calls Try.prog 5 #[v] w fun e w' => e = .returned (.bool true) ∧ Below w.heap.size w w' := by
  obtain ⟨a1, c1, l, rfl, hA, hW, _, _⟩ := h
  simp only [lenOf] at hl
  exact parts_any w (Lib.hid hA) (Lib.hid rfl) hl (Lib.hid hW)
end Go.Proofs.Ytnnphmpodcmmoaa
