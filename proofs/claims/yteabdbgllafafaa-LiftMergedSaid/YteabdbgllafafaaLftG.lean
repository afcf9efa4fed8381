/- Package lift: corebellref.SMerge. -/
import Derived.Test.YteabdbgllafafaaLftF
namespace Go.Proofs.Yteabdbgllafafaa
open Go.RowKit Go.Shelf

theorem addF_len (p : List SpS × SpS) (x : SpS) : (addF p x).1.length ≤ p.1.length + 1 := by
  unfold addF
  split <;> simp
theorem addX_len : ∀ (out : List SpS) (p : List SpS × SpS), (out.foldl addF p).1.length ≤ p.1.length + out.length
  | [], _ => by simp
  | x :: r, p => by
    have h1 := addX_len r (addF p x)
    have h2 := addF_len p x
    rw [List.foldl_cons, List.length_cons]
    omega
theorem addS_len (s : SpS) (out : List SpS) : (addS s out).1.length ≤ out.length := by
  have := addX_len out ([], s)
  simpa [addS] using this
theorem putX_len : ∀ (l out : List SpS), (l.foldl putM out).length ≤ out.length + l.length
  | [], _ => by simp
  | s :: r, out => by
    have h1 := putX_len r (putM out s)
    have h2 := addS_len s out
    have h3 : (putM out s).length = (addS s out).1.length + 1 := by unfold putM; simp
    rw [List.foldl_cons, List.length_cons]
    omega
theorem merge_len (l : List SpS) : (mergeS l).length ≤ l.length := by
  have := putX_len l []
  simpa [mergeS] using this
/-- The inner loop: the span in its box, and those that stay apart of it. -/
structure Inn (X wr : World) (s : SpS) (av : Value) (na : Nat) (ap : List SpS) : Prop where
  b : Below X.heap.size X wr
  u : wr.heap[X.heap.size]? = some (.cells #[.int .i64 s.1, .int .i64 s.2] 41 (0, 0))
  o : wr.ownsRow X.heap.size 41 2 av na (shS.flat ap)
  l : ap.length = na
  ne : ∀ g, av.ownBlock = some g → g ≠ X.heap.size
section
variable {X wr wy : World} {s : SpS} {av av' : Value} {na na' : Nat} {ap ap' : List SpS}
theorem Inn.new (X : World) (s : SpS) : Inn X (X.alloc (.cells #[.int .i64 s.1, .int .i64 s.2] 41)) s (.slice none 0 0) 0 [] := ⟨below_alloc _ _, heap_alloc_new _ _, World.ownsRow_nil _ _ _ _, rfl, fun g h => by cases h⟩
theorem Inn.step (h : Inn X wr s av na ap) (hb : Below wr.heap.size wr wy) : Inn X wy s av na ap := ⟨pstep h.b hb, heap_step h.u hb, own_step h.o hb, h.l, h.ne⟩
theorem Inn.grow (h : Inn X wr s av na ap) (hg : wr.grownBy wy av.ownBlock) (hq : wy.ownsRow X.heap.size 41 2 av' na' (shS.flat ap')) (hl : ap'.length = na') (hf : ∀ x, av'.ownBlock = some x → av.ownBlock = some x ∨ x = wr.heap.size) : Inn X wy s av' na' ap' :=
  ⟨h.b.grown hg h.b.size (fun _ hk => (own_lt h.o hk).1), (hg.block _ (heap_lt h.u) (fun e => h.ne _ e.symm rfl)).trans h.u, hq, hl, fun g hg' => by
    rcases hf g hg' with e | e
    · exact h.ne g e
    · have := heap_lt h.u; omega⟩
theorem heap_set_same {w : World} {g : Nat} {x y : Value} {T : TypeId} (h : w.heap[g]? = some (.cells #[x, y] T (0, 0))) (u v : Value) : ((w.setCell ⟨g, 0, none⟩ u).setCell ⟨g, 1, none⟩ v).heap[g]? = some (.cells #[u, v] T (0, 0)) := by
  have h1 := heap_setCell_same w g 0 #[x, y] T u h
  have h2 := heap_setCell_same (w.setCell ⟨g, 0, none⟩ u) g 1 _ T v h1
  simpa using h2
theorem Inn.put (h : Inn X wr s av na ap) (a b : Int) : Inn X ((wr.setCell ⟨X.heap.size, 0, none⟩ (.int .i64 a)).setCell ⟨X.heap.size, 1, none⟩ (.int .i64 b)) (a, b) av na ap :=
  ⟨(h.b.setCell (p := ⟨X.heap.size, 0, none⟩) (Nat.le_refl _) _).setCell (p := ⟨X.heap.size, 1, none⟩) (Nat.le_refl _) _, heap_set_same h.u _ _, own_set (own_set h.o (fun g hg => h.ne g hg) _) (fun g hg => h.ne g hg) _, h.l, h.ne⟩
end
theorem okS_no {a b : Int} (h : ¬ okS (a, b)) : a < 0 ∨ (¬ a < 0 ∧ b > 1099511627776) ∨ (¬ a < 0 ∧ ¬ b > 1099511627776 ∧ b ≤ a) := by
  unfold okS at h
  simp only at h
  omega
set_option maxHeartbeats 8000000 in
set_option maxRecDepth 100000 in
theorem smerge_W {ad : Option Addr} {cap n : Nat} {l : List SpS} (w : World) (HA : Hid (shS.At w ad cap l)) (hn : Hid (l.length = n)) (er : Int) (her : Hid (errM l = er)) (k : Nat) (hk : Hid ((mrgV l).length = k)) :
    Calls Try.prog 19 #[.slice ad n cap] w (LmOut w k (mrgV l) er) := by
  obtain ⟨i0, hi, hz0, hz1, hz2⟩ := info_parts' info_span
  have HBAD : Hid (¬ okM l → er = 2 ∧ mrgV l = [] ∧ k = 0) := Lib.hid (fun q => by
    rcases errM_cases l with ⟨_, _, q3⟩ | ⟨q1, q2, _⟩
    · exact absurd q3 q
    · exact ⟨her.out.symm.trans q1, q2, by rw [← hk.out, q2]; rfl⟩)
  by_cases h4 : n ≤ 400
  · have h4' : decide ((n : Int) > 400) = false := decide_eq_false (by omega)
    have HJ0 := Lib.hid (Mj.new w)
    go_enter Try.func19, Try.ntmps19
    go_wp2_with fail
    go_loopw [4, 15] (fun ov iv wr => ∃ (i a : Nat) (oa : Option Addr) (oc : Nat), i ≤ n ∧ iv = .int .i64 i ∧ ov = .slice oa a oc ∧ Hid (∀ x ∈ l.take i, okS x) ∧ Hid (Mj w wr (.slice oa a oc) a (mergeS (l.take i)))) (fun _ iv _ => n - (intOf iv).toNat)
    case atStart => exact ⟨0, 0, none, 0, Nat.zero_le _, rfl, rfl, Lib.hid (fun x hx => by simp at hx), HJ0⟩
    case round =>
      clear HJ0
      obtain ⟨Z, hZ⟩ : ∃ Z, Z = wr := ⟨wr, rfl⟩
      subst hZ
      obtain ⟨i, a, oa, oc, hin, rfl, rfl, HALL, HM⟩ := hrel
      by_cases hlt : i < n
      · obtain ⟨s, hs⟩ : ∃ s, l[i]? = some s := ⟨l[i]'(by rw [hn.out]; exact hlt), List.getElem?_eq_getElem _⟩
        have HNX := Lib.hid (merge_next hs)
        have HS := Lib.hid hs
        have hal : a ≤ i := by
          have h1 := merge_len (l.take i)
          rw [HM.out.l, List.length_take] at h1
          omega
        obtain ⟨b, off, rfl, hb, e0, e1⟩ := at_sp HA.out hs
        have c0 := (HM.out.b.cell (p := ⟨b, off + i * 2, none⟩) hb).trans e0
        have c1 := (HM.out.b.cell (p := ⟨b, off + i * 2 + 1, none⟩) hb).trans e1
        have hbr : b < Z.heap.size := Nat.lt_of_lt_of_le hb HM.out.b.size
        obtain ⟨s1, s2⟩ := s
        simp only at c0 c1
        have I0 := Lib.hid (Inn.new Z (s1, s2))
        have hbX : w.heap.size ≤ Z.heap.size := HM.out.b.size
        clear hs e0 e1
        by_cases hok : okS (s1, s2)
        · have HALL2 : Hid (∀ x ∈ l.take (i + 1), okS x) := Lib.hid (fun x hx => by
            rw [List.take_add_one, HS.out] at hx
            rcases List.mem_append.1 hx with hx | hx
            · exact HALL.out x hx
            · simp at hx; rw [hx]; exact hok)
          have k1 : decide (s1 < 0) = false := decide_eq_false (by have := hok.1; simp only at this; omega)
          have k2 : decide (s2 > 1099511627776) = false := decide_eq_false (by have := hok.2.2; simp only at this; omega)
          have k3 : decide (s2 ≤ s1) = false := decide_eq_false (by have := hok.2.1; simp only at this; omega)
          obtain ⟨out, hout⟩ : ∃ out, mergeS (l.take i) = out := ⟨_, rfl⟩
          rw [hout] at HM HNX
          have OA := Lib.hid (Shape.At.own (S := shS) HM.out.o HM.out.l)
          have HOL := Lib.hid HM.out.l
          clear hok hout
          go_upto_region 7 with fail
          generalize hX : Z.alloc (.cells #[.int .i64 s1, .int .i64 s2] 41) = X at I0 ⊢
          obtain ⟨x0, x1⟩ := pair_at I0.out.u
          have lX := heap_lt I0.out.u
          clear c0 c1 hbr hX
          go_wp2_with fail
          go_loopw [7, 36] (fun av jv wr => ∃ (j na : Nat) (aa : Option Addr) (ac : Nat), j ≤ a ∧ jv = .int .i64 j ∧ av = .slice aa na ac ∧ Hid (Inn Z wr (addS (s1, s2) (out.take j)).2 (.slice aa na ac) na (addS (s1, s2) (out.take j)).1)) (fun _ jv _ => a - (intOf jv).toNat)
          case atStart => exact ⟨0, 0, none, 0, Nat.zero_le _, rfl, rfl, I0⟩
          case round =>
            clear I0 x0 x1 lX
            obtain ⟨j, na, aa, ac, hja, rfl, rfl, HI⟩ := hrel
            have hnj : na ≤ j := by
              have h1 := addS_len (s1, s2) (out.take j)
              rw [HI.out.l, List.length_take] at h1
              omega
            by_cases hjt : j < a
            · obtain ⟨x, hx⟩ : ∃ x, out[j]? = some x := ⟨out[j]'(by rw [HOL.out]; exact hjt), List.getElem?_eq_getElem _⟩
              have HNJ := Lib.hid (addS_next (s := (s1, s2)) hx)
              obtain ⟨bo, oo, rfl, hbo, y0, y1⟩ := at_sp OA.out hx
              have z0 := (HI.out.b.cell (p := ⟨bo, oo + j * 2, none⟩) hbo).trans y0
              have z1 := (HI.out.b.cell (p := ⟨bo, oo + j * 2 + 1, none⟩) hbo).trans y1
              have hbw : bo < wr.heap.size := Nat.lt_of_lt_of_le hbo HI.out.b.size
              obtain ⟨x1, x2⟩ := x
              simp only at z0 z1
              obtain ⟨pr, hpr⟩ : ∃ pr, addS (s1, s2) (out.take j) = pr := ⟨_, rfl⟩
              rw [hpr] at HI HNJ
              obtain ⟨ap, q1, q2⟩ := pr
              simp only at HI
              have IX := Lib.hid (HI.out.step (below_alloc wr (.cells #[.int .i64 x1, .int .i64 x2] 41)))
              have VX := Lib.hid (heap_alloc_new wr (.cells #[.int .i64 x1, .int .i64 x2] 41))
              clear hx y0 y1 hpr HI
              go_upto_region 13 with fail
              generalize wr.alloc (.cells #[.int .i64 x1, .int .i64 x2] 41) = Y at IX VX ⊢
              generalize wr.heap.size = V at VX ⊢
              obtain ⟨v0, v1⟩ := pair_at VX.out
              obtain ⟨u0, u1⟩ := pair_at IX.out.u
              have lV := heap_lt VX.out
              have lU := heap_lt IX.out.u
              have fu := fun i => frozen_of_row Y Z.heap.size i _ _ IX.out.u
              clear z0 z1 hbw
              simp only at u0 u1
              by_cases hap : apS (x1, x2) (q1, q2)
              · have HN2 : Hid (addS (s1, s2) (out.take (j + 1)) = (ap ++ [(x1, x2)], (q1, q2))) := Lib.hid (by rw [HNJ.out]; exact if_pos hap)
                have IY := Lib.hid (IX.out.step (below_alloc Y (.cells #[.int .i64 x1, .int .i64 x2] 41)))
                have XL := Lib.hid (Shape.At.lit (S := shS) (cap := 1) [(x1, x2)] (heap_alloc_new Y (.cells #[.int .i64 x1, .int .i64 x2] 41)))
                have HAL := Lib.hid IX.out.l
                have hsz := IY.out.b.size
                by_cases hc1 : x2 < q1
                · have d1 : decide (x2 < q1) = true := decide_eq_true hc1
                  clear hap hc1
                  go_wp2_with (first
                    | (at_builtin; refine wpList_append_n shS rfl _ _ 36 rfl Z.heap.size 41 i0 _ 16 Try.underlying36 hi hz0 hz1 hz2 rfl (.slice aa na ac) na ap [(x1, x2)] HAL rfl IY.out.o (some ⟨Y.heap.size, 0, none⟩) 1 1 rfl (Lib.hid rfl) XL.out (by unfold maxLen; omega) (by omega) hsz ?_; intro ra4 rc4 w4 own4 grow4 new4; have I4 := Lib.hid (IY.out.grow grow4 own4 (by rw [List.length_append, HAL.out]; rfl) new4); clear own4 grow4 new4)
                    | fail)
                  go_roundw
                  case rel => exact ⟨j + 1, na + 1, ra4, rc4, by omega, by go_num, rfl, Lib.hid (by rw [HN2.out]; exact I4.out)⟩
                  case measure => simp [intOf]; omega
                · have d1 : decide (x2 < q1) = false := decide_eq_false hc1
                  have d2 : decide (x1 > q2) = true := decide_eq_true (by unfold apS at hap; simp only at hap; omega)
                  clear hap hc1
                  go_wp2_with (first
                    | (at_builtin; refine wpList_append_n shS rfl _ _ 36 rfl Z.heap.size 41 i0 _ 16 Try.underlying36 hi hz0 hz1 hz2 rfl (.slice aa na ac) na ap [(x1, x2)] HAL rfl IY.out.o (some ⟨Y.heap.size, 0, none⟩) 1 1 rfl (Lib.hid rfl) XL.out (by unfold maxLen; omega) (by omega) hsz ?_; intro ra4 rc4 w4 own4 grow4 new4; have I4 := Lib.hid (IY.out.grow grow4 own4 (by rw [List.length_append, HAL.out]; rfl) new4); clear own4 grow4 new4)
                    | fail)
                  go_roundw
                  case rel => exact ⟨j + 1, na + 1, ra4, rc4, by omega, by go_num, rfl, Lib.hid (by rw [HN2.out]; exact I4.out)⟩
                  case measure => simp [intOf]; omega
              · have HN2 : Hid (addS (s1, s2) (out.take (j + 1)) = (ap, (min q1 x1, max q2 x2))) := Lib.hid (by rw [HNJ.out]; exact if_neg hap)
                have d1 : decide (x2 < q1) = false := decide_eq_false (fun h => hap (Or.inl h))
                have d2 : decide (x1 > q2) = false := decide_eq_false (fun h => hap (Or.inr h))
                have IP := Lib.hid (IX.out.put (min q1 x1) (max q2 x2))
                clear hap
                go_wp2_with fail
                go_roundw
                case rel => exact ⟨j + 1, na, aa, ac, by omega, by go_num, rfl, Lib.hid (by rw [HN2.out]; exact IP.out)⟩
                case measure => simp [intOf]; omega
            · have e : out.take j = out := by rw [show j = a by omega, ← HOL.out, List.take_length]
              rw [e] at HI
              obtain ⟨pr, hpr⟩ : ∃ pr, addS (s1, s2) out = pr := ⟨_, rfl⟩
              rw [hpr] at HI
              obtain ⟨ap, q1, q2⟩ := pr
              simp only at HI
              have HN2 : Hid (mergeS (l.take (i + 1)) = ap ++ [(q1, q2)]) := Lib.hid (by rw [HNX.out]; unfold putM; rw [hpr])
              obtain ⟨u0, u1⟩ := pair_at HI.out.u
              have lU := heap_lt HI.out.u
              have IY := Lib.hid (HI.out.step (below_alloc wr (.cells #[.int .i64 q1, .int .i64 q2] 41)))
              have XL := Lib.hid (Shape.At.lit (S := shS) (cap := 1) [(q1, q2)] (heap_alloc_new wr (.cells #[.int .i64 q1, .int .i64 q2] 41)))
              have HAL := Lib.hid HI.out.l
              have hsz := IY.out.b.size
              have HWB := Lib.hid HM.out.b
              clear e hpr
              simp only at u0 u1
              go_wp2_with (first
                | (at_builtin; refine wpList_append_n shS rfl _ _ 36 rfl Z.heap.size 41 i0 _ 16 Try.underlying36 hi hz0 hz1 hz2 rfl (.slice aa na ac) na ap [(q1, q2)] HAL rfl IY.out.o (some ⟨wr.heap.size, 0, none⟩) 1 1 rfl (Lib.hid rfl) XL.out (by unfold maxLen; omega) (by omega) hsz ?_; intro ra4 rc4 w4 own4 grow4 new4; have I4 := Lib.hid (IY.out.grow grow4 own4 (by rw [List.length_append, HAL.out]; rfl) new4); clear own4 grow4 new4)
                | fail)
              go_roundw
              case rel => exact ⟨i + 1, na + 1, ra4, rc4, by omega, by go_num, rfl, HALL2, Lib.hid (by rw [HN2.out]; exact ⟨pstep HWB.out I4.out.b, own_base I4.out.o hbX, I4.out.l⟩)⟩
              case measure => simp [intOf]; omega
        · obtain ⟨rfl, hm0, rfl⟩ := HBAD.out (fun q => hok (q.2 _ (List.mem_of_getElem? HS.out)))
          have HM0 := Lib.hid hm0
          have BX := Lib.hid (pstep HM.out.b I0.out.b)
          have hcase := okS_no hok
          clear hok hm0
          go_upto_region 7 with fail
          generalize hX : Z.alloc (.cells #[.int .i64 s1, .int .i64 s2] 41) = X at I0 BX ⊢
          obtain ⟨x0, x1⟩ := pair_at I0.out.u
          have lX := heap_lt I0.out.u
          clear c0 c1 hbr hX
          rcases hcase with h1 | ⟨h1, h2⟩ | ⟨h1, h2, h3⟩
          · have k1 : decide (s1 < 0) = true := decide_eq_true h1
            clear h1
            go_wp2_with fail
            go_ret2
            exact ⟨_, _, rfl, by rw [HM0.out]; exact Shape.At.nil _, BX.out⟩
          · have k1 : decide (s1 < 0) = false := decide_eq_false h1
            have k2 : decide (s2 > 1099511627776) = true := decide_eq_true h2
            clear h1 h2
            go_wp2_with fail
            go_ret2
            exact ⟨_, _, rfl, by rw [HM0.out]; exact Shape.At.nil _, BX.out⟩
          · have k1 : decide (s1 < 0) = false := decide_eq_false h1
            have k2 : decide (s2 > 1099511627776) = false := decide_eq_false h2
            have k3 : decide (s2 ≤ s1) = true := decide_eq_true h3
            clear h1 h2 h3
            go_wp2_with fail
            go_ret2
            exact ⟨_, _, rfl, by rw [HM0.out]; exact Shape.At.nil _, BX.out⟩
      · have e : l.take i = l := by rw [show i = n by omega, ← hn.out, List.take_length]
        rw [e] at HM HALL
        have hokM : okM l := ⟨by rw [hn.out]; exact h4, HALL.out⟩
        obtain rfl : er = 0 := by rw [← her.out]; exact if_pos hokM
        have hmv : mrgV l = canL l := if_pos hokM
        have HMOK := Lib.hid (merge_loose HALL.out).1.ok
        have HML := Lib.hid HM.out.l
        have HO := Lib.hid HM.out.o
        have hkl : k = a := by
          rw [← hk.out, hmv]
          exact (List.mergeSort_perm (mergeS l) _).length_eq.trans HM.out.l
        subst hkl
        have hn62 : k < 4611686018427387904 := by
          have h1 := merge_len l
          rw [HML.out, hn.out] at h1
          omega
        have HMV := Lib.hid hmv
        clear e hmv hokM
        go_wp2_with (first
          | (go_at_call 40; (with_reducible refine (sortB _ HO HML HMOK hn62).mono ?_); rintro e w3 ⟨rfl, m, pm, sm, o3, g3⟩; have HC := Lib.hid (can_ref HALL.out pm sm); have A3 := Lib.hid (Shape.At.own (S := shS) o3 (pm.length_eq.symm.trans HML.out)); have B3 := Lib.hid (HM.out.b.grown g3 HM.out.b.size (fun j hj => (own_lt HO.out hj).1)); clear o3 g3 pm sm)
          | fail)
        go_ret2
        exact ⟨_, _, rfl, by rw [HMV.out, ← HC.out]; exact A3.out, B3.out⟩
  · have h4' : decide ((n : Int) > 400) = true := decide_eq_true (by omega)
    obtain ⟨rfl, hm0, rfl⟩ := HBAD.out (fun q => h4 (by rw [← hn.out]; exact q.1))
    have HM0 := Lib.hid hm0
    clear hm0
    go_enter Try.func19, Try.ntmps19
    go_wp2_with fail
    go_ret2
    exact ⟨_, _, rfl, by rw [HM0.out]; exact Shape.At.nil _, Below.refl _ _⟩
theorem merge_W {ad : Option Addr} {cap n : Nat} {l : List SpS} (w : World) (HA : Hid (shS.At w ad cap l)) (hn : Hid (l.length = n)) (hnb : n ≤ 9223372036854775807) (er : Int) (her : Hid (errM l = er)) (k : Nat) (hk : Hid ((mrgV l).length = k)) :
    Calls Try.prog 18 #[.slice ad n cap] w (LmOut w k (mrgV l) er) := by
  rcases errM_cases l with ⟨q1, q2, q3⟩ | ⟨q1, q2, q3⟩
  · obtain rfl : er = 0 := her.out.symm.trans q1
    rw [q2] at hk ⊢
    exact merge_ok w HA hn (by rw [← hn.out]; exact q3.1) (Lib.hid q3.2) k hk
  · obtain rfl : er = 2 := her.out.symm.trans q1
    rw [q2] at hk ⊢
    obtain rfl : k = 0 := hk.out.symm
    exact merge_bad w HA hn q3 hnb
end Go.Proofs.Yteabdbgllafafaa
