/- Package lift: Merge. -/
import Derived.Test.YteabdbgllafafaaSpB
import Derived.Test.YteabdbgllafafaaLiftT
import Derived.Lib.MinMax
import Derived.RegionTactic
namespace Go.Proofs.Yteabdbgllafafaa
open Go.RowKit Go.Shelf

abbrev tSp : TypeId := 41
/-- A list of spans and an error. -/
def LmOut (w : World) (k : Nat) (r : List SpS) (er : Int) (e : Ending) (w' : World) : Prop :=
  ∃ ra rc, e = .returned (.tuple #[.slice ra k rc, .int .i64 er]) ∧ shS.At w' ra rc r ∧ Below w.heap.size w w'
/-- A row of spans that grows. -/
structure Mj (w wr : World) (v : Value) (a : Nat) (out : List SpS) : Prop where
  b : Below w.heap.size w wr
  o : wr.ownsRow w.heap.size 41 2 v a (shS.flat out)
  l : out.length = a
section
variable {w wr wy : World} {v v' : Value} {a a' : Nat} {out out' : List SpS}
theorem Mj.new (w : World) : Mj w w (.slice none 0 0) 0 [] := ⟨Below.refl _ _, World.ownsRow_nil _ _ _ _, rfl⟩
theorem Mj.step (h : Mj w wr v a out) (hb : Below wr.heap.size wr wy) : Mj w wy v a out := ⟨pstep h.b hb, own_step h.o hb, h.l⟩
theorem Mj.grow (h : Mj w wr v a out) (hg : wr.grownBy wy v.ownBlock) (hq : wy.ownsRow w.heap.size 41 2 v' a' (shS.flat out')) (hl : out'.length = a') : Mj w wy v' a' out' := ⟨h.b.grown hg h.b.size (fun _ hk => (own_lt h.o hk).1), hq, hl⟩
theorem flat_end (i : List SpS) (t : SpS) (x : Int) : (shS.flat (i ++ [t])).set (i.length * 2 + 1) (.int .i64 x) = shS.flat (i ++ [(t.1, x)]) := by
  have hs : shS.size = 2 := rfl
  have hl := shS.flat_len i
  rw [hs] at hl
  rw [shS.flat_app, shS.flat_app, List.set_append_right _ _ (by omega), hl, Nat.add_sub_cancel_left]
  rfl
theorem Mj.put {g mc : Nat} {i : List SpS} {t : SpS} {p : Nat} (h : Mj w wr (.slice (some ⟨g, 0, none⟩) a mc) a (i ++ [t])) (hp : i.length = p) (x : Int) : Mj w (wr.setCell ⟨g, p * 2 + 1, none⟩ (.int .i64 x)) (.slice (some ⟨g, 0, none⟩) a mc) a (i ++ [(t.1, x)]) := by
  subst hp
  obtain ⟨h1, h2⟩ := World.ownsRow.stored h.o (i.length * 2 + 1) (.int .i64 x)
  rw [flat_end] at h1
  exact h.grow h2 h1 (by have := h.l; simpa using this)
end
theorem addr_end {w wr : World} {ma : Option Addr} {a mc : Nat} {i : List SpS} {t : SpS} (h : Mj w wr (.slice ma a mc) a (i ++ [t])) : ∃ g, ma = some ⟨g, 0, none⟩ ∧ w.heap.size ≤ g ∧ g < wr.heap.size := by
  obtain ⟨a1, c1, hv, _, _, hnil, hs⟩ := own_shape h.o
  simp only [Value.slice.injEq, true_and] at hv
  obtain ⟨rfl, rfl⟩ := hv
  cases ma with
  | none => have := (hnil rfl).1; have := h.l; simp at this; omega
  | some ad =>
    obtain ⟨g, rfl, h1, h2⟩ := hs ad rfl
    exact ⟨g, rfl, h1, h2⟩
theorem notok_pred (w : World) : PredBelow Try.prog 39 #[] (fun x => .agg (shS.enc x).toArray) (fun s => !decide (okS s)) w := fun W x hb =>
  (iswrong_W x.1 x.2 W _ (Lib.hid rfl)).mono fun _ _ h => ⟨h.1, hb.trans (h.2.mono hb.size)⟩
theorem any_bad {l : List SpS} (h : ∀ s ∈ l, okS s) : (l.any fun s => !decide (okS s)) = false := by
  rw [List.any_eq_false]
  intro s hs
  simp [h s hs]
theorem any_worse {l : List SpS} (h : ¬ ∀ s ∈ l, okS s) : (l.any fun s => !decide (okS s)) = true := by
  rw [List.any_eq_true]
  by_cases g : ∃ s, s ∈ l ∧ ¬ okS s
  · obtain ⟨s, h1, h2⟩ := g
    exact ⟨s, h1, by simp [h2]⟩
  · exact absurd (fun s hs => by by_cases q : okS s; · exact q
                                 · exact absurd ⟨s, hs, q⟩ g) h
theorem haswrong_W {ad : Option Addr} {cap n : Nat} {l : List SpS} (w : World) (HA : Hid (shS.At w ad cap l)) (hn : Hid (l.length = n)) (hnb : n ≤ 9223372036854775807) (q : Bool) (hq : Hid ((l.any fun s => !decide (okS s)) = q)) :
    Calls Try.prog 29 #[.slice ad n cap, .func (.func 39) #[] #[]] w fun e w' => e = .returned (.bool q) ∧ Below w.heap.size w w' :=
  contains_S 39 #[] _ (enters_of Try.func39 (by kernel_rfl) rfl) w (Lib.hid (notok_pred w)) HA hn hnb q hq
set_option maxHeartbeats 4000000 in
set_option maxRecDepth 100000 in
theorem merge_bad {ad : Option Addr} {cap n : Nat} {l : List SpS} (w : World) (HA : Hid (shS.At w ad cap l)) (hn : Hid (l.length = n)) (hb : ¬ okM l) (hnb : n ≤ 9223372036854775807) :
    Calls Try.prog 18 #[.slice ad n cap] w (LmOut w 0 [] 2) := by
  by_cases h4 : n ≤ 400
  · have h4' : decide ((n : Int) > 400) = false := decide_eq_false (by omega)
    have HQ := Lib.hid (any_worse (l := l) (fun h => hb ⟨by rw [hn.out]; exact h4, h⟩))
    clear hb
    go_enter Try.func18, Try.ntmps18
    go_wp2_with (first
      | (go_at_call 29; (with_reducible refine (haswrong_W _ HA hn hnb true HQ).mono ?_); rintro e w1 ⟨rfl, b1⟩; have B1 := Lib.hid b1; clear b1)
      | fail)
    go_ret2
    exact ⟨_, _, rfl, Shape.At.nil _, B1.out⟩
  · have h4' : decide ((n : Int) > 400) = true := decide_eq_true (by omega)
    clear hb
    go_enter Try.func18, Try.ntmps18
    go_wp2_with fail
    go_ret2
    exact ⟨_, _, rfl, Shape.At.nil _, Below.refl _ _⟩
set_option maxHeartbeats 4000000 in
set_option maxRecDepth 100000 in
theorem merge_ok {ad : Option Addr} {cap n : Nat} {l : List SpS} (w : World) (HA : Hid (shS.At w ad cap l)) (hn : Hid (l.length = n)) (h4 : n ≤ 400) (HOK : Hid (∀ s ∈ l, okS s)) (k : Nat) (hk : Hid ((canL l).length = k)) :
    Calls Try.prog 18 #[.slice ad n cap] w (LmOut w k (canL l) 0) := by
  obtain ⟨i0, hi, hz0, hz1, hz2⟩ := info_parts' info_span
  have h4' : decide ((n : Int) > 400) = false := decide_eq_false (by omega)
  have HQ := Lib.hid (any_bad HOK.out)
  have hnb : n ≤ 9223372036854775807 := by omega
  have hnc : n ≤ 8796093022207 := by omega
  have hnd : n < 4611686018427387904 := by omega
  go_enter Try.func18, Try.ntmps18
  go_wp2_with (first
    | (go_at_call 29; (with_reducible refine (haswrong_W _ HA hn hnb false HQ).mono ?_); rintro e w1 ⟨rfl, b1⟩; have B1 := Lib.hid b1; have A1 := Lib.hid (HA.out.step b1); clear b1)
    | (go_at_call 31; (with_reducible refine (clone_S _ A1 hn hnc).mono ?_); rintro e w2 ⟨ra, rc, rfl, o2, b2⟩; have O2 := Lib.hid (own_base o2 B1.out.size); have B2 := Lib.hid (pstep B1.out b2); clear o2 b2)
    | (go_at_call 40; (with_reducible refine (sortA _ O2 hn HOK hnd).mono ?_); rintro e w3 ⟨rfl, m, pm, sm, o3, g3⟩; have HML : Hid (m.length = n) := Lib.hid (by rw [← pm.length_eq]; exact hn.out); have HJ := Lib.hid (can_join HOK.out pm sm); have A3 := Lib.hid (Shape.At.own (S := shS) o3 HML.out); have B3 := Lib.hid (B2.out.grown g3 B2.out.size (fun j hj => (own_lt O2.out hj).1)); have HJ0 := Lib.hid (Mj.new w3); clear o3 g3 pm sm)
    | fail)
  go_loopw [5, 22] (fun mv iv wr => ∃ (i a : Nat) (ma : Option Addr) (mc : Nat), i ≤ n ∧ iv = .int .i64 i ∧ mv = .slice ma a mc ∧ Hid (Mj w3 wr (.slice ma a mc) a (joinL (m.take i)))) (fun _ iv _ => n - (intOf iv).toNat)
  case atStart => exact ⟨0, 0, none, 0, Nat.zero_le _, rfl, rfl, HJ0⟩
  case round =>
    clear HJ0
    obtain ⟨i, a, ma, mc, hin, rfl, rfl, HM⟩ := hrel
    by_cases hlt : i < n
    · obtain ⟨s, hs⟩ : ∃ s, m[i]? = some s := ⟨m[i]'(by rw [HML.out]; exact hlt), List.getElem?_eq_getElem _⟩
      have HNX := Lib.hid (join_next hs)
      have hal : a ≤ i := by
        have h1 := join_len (m.take i)
        rw [HM.out.l, List.length_take] at h1
        omega
      obtain ⟨b, off, rfl, hb, e0, e1⟩ := at_sp A3.out hs
      have c0 := (HM.out.b.cell (p := ⟨b, off + i * 2, none⟩) hb).trans e0
      have c1 := (HM.out.b.cell (p := ⟨b, off + i * 2 + 1, none⟩) hb).trans e1
      have hbr : b < wr.heap.size := Nat.lt_of_lt_of_le hb HM.out.b.size
      obtain ⟨s1, s2⟩ := s
      simp only at c0 c1
      obtain ⟨out, hout⟩ : ∃ out, joinL (m.take i) = out := ⟨_, rfl⟩
      rw [hout] at HM HNX
      have MX := Lib.hid (HM.out.step (below_alloc wr (.cells #[.int .i64 s1, .int .i64 s2] 41)))
      have XB := Lib.hid (heap_alloc_new wr (.cells #[.int .i64 s1, .int .i64 s2] 41))
      clear hs e0 e1 hout HM
      go_upto_region 10 with fail
      generalize wr.alloc (.cells #[.int .i64 s1, .int .i64 s2] 41) = X at MX XB ⊢
      generalize wr.heap.size = U at XB ⊢
      obtain ⟨x0, x1⟩ := pair_at XB.out
      have lX := heap_lt XB.out
      clear c0 c1 hbr
      rcases list_end out with rfl | ⟨i1, t, rfl⟩
      · obtain rfl : a = 0 := MX.out.l.symm
        have hj : joinP [] (s1, s2) = [(s1, s2)] := rfl
        have HN2 : Hid (joinL (m.take (i + 1)) = [] ++ [(s1, s2)]) := HNX
        go_quiet (fail)
        have MY := Lib.hid ((MX.out.step (below_drewN (Below.refl X.heap.size X) nq)).step (below_alloc (X.drewN nq) (.cells #[.int .i64 s1, .int .i64 s2] 41)))
        have XL := Lib.hid (Shape.At.lit (S := shS) (cap := 1) [(s1, s2)] (heap_alloc_new (X.drewN nq) (.cells #[.int .i64 s1, .int .i64 s2] 41)))
        go_wp2_with (first
          | (at_builtin; refine wpList_append_n shS rfl _ _ 36 rfl w3.heap.size 41 i0 _ 16 Try.underlying36 hi hz0 hz1 hz2 rfl (.slice ma 0 mc) 0 [] [(s1, s2)] (Lib.hid rfl) rfl MY.out.o (some ⟨X.heap.size, 0, none⟩) 1 1 rfl (Lib.hid rfl) XL.out (by unfold maxLen; omega) (by omega) MY.out.b.size ?_; intro ra4 rc4 w4 own4 grow4 _; have M4 := Lib.hid (MY.out.grow grow4 own4 rfl); clear own4 grow4)
          | fail)
        go_roundw
        case rel => exact ⟨i + 1, 1, ra4, rc4, by omega, by go_num, rfl, Lib.hid (by rw [HN2.out]; exact M4.out)⟩
        case measure => simp [intOf]; omega
      · obtain ⟨t1, t2⟩ := t
        obtain ⟨p, hp⟩ : ∃ p, i1.length = p := ⟨_, rfl⟩
        have HP := Lib.hid hp
        obtain rfl : a = p + 1 := by rw [← MX.out.l, List.length_append, hp]; rfl
        obtain ⟨g, rfl, hg1, hg2⟩ := addr_end MX.out
        have f1 : (i1 ++ [(t1, t2)])[p]? = some (t1, t2) := by rw [← hp]; simp
        obtain ⟨b', o', e', _, y0, y1⟩ := at_sp (Shape.At.own (S := shS) MX.out.o MX.out.l) f1
        cases e'
        rw [Nat.zero_add] at y0 y1
        have fz := World.ownsRow.frozenAt MX.out.o (p * 2 + 1)
        have hl1 : IntKind.i64.wrap (((p + 1 : Nat) : Int) - 1) = (p : Int) := by rw [IntKind.wrap_i64]; omega
        have hp0 : decide ((p : Int) ≥ 0) = true := decide_eq_true (by omega)
        have hpp : p < p + 1 := Nat.lt_succ_self _
        simp only at y0 y1
        clear hp f1
        by_cases hle : s1 ≤ t2
        · have hld : decide (s1 ≤ t2) = true := decide_eq_true hle
          have HN2 : Hid (joinL (m.take (i + 1)) = i1 ++ [(t1, max t2 s2)]) := Lib.hid (by rw [HNX.out, joinP_end, if_pos hle])
          clear hle
          go_quiet (fail)
          go_wp2_with fail
          go_region
          all_goals go_wp2_with fail
          all_goals go_roundw
          case rel => exact ⟨i + 1, p + 1, _, _, by omega, by go_num, rfl, Lib.hid (by rw [HN2.out]; exact (MX.out.step (below_drewN (Below.refl _ _) (nq + 1))).put HP.out _)⟩
          case measure => simp [intOf]; omega
        · have hld : decide (s1 ≤ t2) = false := decide_eq_false hle
          have HN2 : Hid (joinL (m.take (i + 1)) = (i1 ++ [(t1, t2)]) ++ [(s1, s2)]) := Lib.hid (by rw [HNX.out, joinP_end, if_neg hle])
          have HPL : Hid ((i1 ++ [(t1, t2)]).length = p + 1) := Lib.hid MX.out.l
          clear hle
          go_quiet (fail)
          have MY := Lib.hid ((MX.out.step (below_drewN (Below.refl X.heap.size X) nq)).step (below_alloc (X.drewN nq) (.cells #[.int .i64 s1, .int .i64 s2] 41)))
          have XL := Lib.hid (Shape.At.lit (S := shS) (cap := 1) [(s1, s2)] (heap_alloc_new (X.drewN nq) (.cells #[.int .i64 s1, .int .i64 s2] 41)))
          go_wp2_with (first
            | (at_builtin; refine wpList_append_n shS rfl _ _ 36 rfl w3.heap.size 41 i0 _ 16 Try.underlying36 hi hz0 hz1 hz2 rfl (.slice (some ⟨g, 0, none⟩) (p + 1) mc) (p + 1) (i1 ++ [(t1, t2)]) [(s1, s2)] HPL rfl MY.out.o (some ⟨X.heap.size, 0, none⟩) 1 1 rfl (Lib.hid rfl) XL.out (by unfold maxLen; omega) (by omega) MY.out.b.size ?_; intro ra4 rc4 w4 own4 grow4 _; have M4 := Lib.hid (MY.out.grow grow4 own4 (by rw [List.length_append, HPL.out]; rfl)); clear own4 grow4)
            | fail)
          go_roundw
          case rel => exact ⟨i + 1, p + 1 + 1, ra4, rc4, by omega, by go_num, rfl, Lib.hid (by rw [HN2.out]; exact M4.out)⟩
          case measure => simp [intOf]; omega
    · have e : m.take i = m := by rw [show i = n by omega, ← HML.out, List.take_length]
      rw [e, HJ.out] at HM
      obtain rfl : k = a := by rw [← hk.out]; exact HM.out.l
      clear e
      go_wp2_with fail
      go_ret2
      exact ⟨_, _, rfl, Shape.At.own (S := shS) HM.out.o HM.out.l, pstep B3.out HM.out.b⟩
end Go.Proofs.Yteabdbgllafafaa
