/- Package lift: Sweep, Short. -/
import Derived.Test.YteabdbgllafafaaLftC
import Derived.Test.YteabdbgllafafaaLiftS
import Derived.Test.YteabdbgllafafaaRevI
import Derived.Test.YteabdbgllafafaaConN
namespace Go.Proofs.Yteabdbgllafafaa
open Go.RowKit

/-- What Sweep and Short answer. -/
def sweepV (h : Int) (l : List Int) : List Int := if okH h ∧ okL l then sweepL h l else []
def shortV (h : Int) (l : List Int) : List Int := if okH h ∧ okL l then shortL h l else []
/-- A list of numbers and an error. -/
def LsOut (w : World) (k : Nat) (r : List Int) (er : Int) (e : Ending) (w' : World) : Prop :=
  ∃ ra rc, e = .returned (.tuple #[.slice ra k rc, .int .i64 er]) ∧ shI.At w' ra rc r ∧ Below w.heap.size w w'
set_option maxHeartbeats 2000000 in
set_option maxRecDepth 100000 in
theorem sweep_W {ad : Option Addr} {cap n : Nat} {l : List Int} (head : Int) (w : World) (HA : Hid (shI.At w ad cap l)) (hn : Hid (l.length = n)) (er : Int) (her : Hid (errH head l = er)) (k : Nat) (hk : Hid ((sweepV head l).length = k)) :
    Calls Try.prog 10 #[.int .i64 head, .slice ad n cap] w (LsOut w k (sweepV head l) er) := by
  rcases errH_cases head l with ⟨q0, qh, ql⟩ | ⟨q0, q⟩
  · obtain rfl : er = 0 := by rw [← her.out]; exact q0
    have e0 : sweepV head l = upR head l ++ dnR head l := if_pos ⟨qh, ql⟩
    rw [e0] at hk ⊢
    have h4 : n ≤ 400 := by rw [← hn.out]; exact ql.1
    obtain ⟨f, hf⟩ : ∃ f, (dnR head l).length = f := ⟨_, rfl⟩
    obtain ⟨m, hm⟩ : ∃ m, (upR head l).length = m := ⟨_, rfl⟩
    have hfm : f + m = n := by rw [← hf, ← hm, ← hn.out]; exact updn_len head l
    have HF := Lib.hid hf
    have HM := Lib.hid hm
    have HK : Hid (k = m + f) := Lib.hid (by rw [← hk.out, List.length_append, hm, hf])
    have hm1 : m ≤ 1048576 := by omega
    have hf1 : f ≤ 1048576 := by omega
    clear hf hm qh ql q0 e0
    go_enter Try.func10, Try.ntmps10
    go_wp2_with (first
      | (go_at_call 33; (with_reducible refine (check_W head _ HA hn _ her).mono ?_); rintro e w1 ⟨rfl, rfl⟩)
      | (go_at_call 34; (with_reducible refine (split_W head _ HA hn h4 f m HF HM).mono ?_); rintro e w2 ⟨ba, bc, aa, ac, rfl, b2, q2, a2, l2, r2⟩; have B2 := Lib.hid b2; have BX := Lib.hid (pstep b2 (below_alloc w2 (.cells #[.slice aa m ac, .slice ba f bc] 22))); have HQ := Lib.hid (heap_alloc_new w2 (.cells #[.slice aa m ac, .slice ba f bc] 22)); have QA := Lib.hid ((que_at q2).step (below_alloc w2 (.cells #[.slice aa m ac, .slice ba f bc] 22))); have AA := Lib.hid (a2.step (below_alloc w2 (.cells #[.slice aa m ac, .slice ba f bc] 22))); clear b2 q2 a2 l2 r2)
      | (go_at_call 16; (with_reducible refine (concat_Int _ _ _ _ _ _ _ _ _ _ HQ HM HF AA QA hm1 hf1 k HK).mono ?_); rintro e w3 ⟨ra, rc, rfl, a3, b3⟩; have A3 := Lib.hid a3; have B3 := Lib.hid (pstep BX.out b3); clear a3 b3)
      | fail)
    go_ret2
    exact ⟨_, _, rfl, A3.out, B3.out⟩
  · obtain rfl : er = 2 := by rw [← her.out]; exact q0
    have e0 : sweepV head l = [] := if_neg q
    rw [e0] at hk ⊢
    obtain rfl : k = 0 := hk.out.symm
    clear q q0 e0
    go_enter Try.func10, Try.ntmps10
    go_wp2_with (first
      | (go_at_call 33; (with_reducible refine (check_W head _ HA hn _ her).mono ?_); rintro e w1 ⟨rfl, rfl⟩)
      | fail)
    go_ret2
    exact ⟨_, _, rfl, Shape.At.nil _, Below.refl _ _⟩
/-- What lies right behind a row stays while that row is turned round. -/
theorem above_kept {w w' : World} {ba aa : Option Addr} {f m bc ac : Nat} {us : List Int} (A : shI.At w aa ac us) (hl : us.length = m) (hr : 0 < m → ∀ g o, ba = some ⟨g, o, none⟩ → aa = some ⟨g, o + f, none⟩) (hs : ∀ a, ba = some a → ∃ g o, a = ⟨g, o, none⟩)
    (hg : w.grownBy w' (Value.slice ba f bc).ownBlock) (hfr : ∀ g o, ba = some ⟨g, o, none⟩ → ∀ i, i < o ∨ o + f ≤ i → w'.cell? ⟨g, i, none⟩ = w.cell? ⟨g, i, none⟩) : shI.At w' aa ac us :=
  ⟨A.1, fun h0 => by
    obtain ⟨b, off, e, hb, hc⟩ := A.2 h0
    refine ⟨b, off, e, Nat.lt_of_lt_of_le hb hg.size, fun k hk => ?_⟩
    rw [← hc k hk]
    cases ba with
    | none => exact World.cell?_of_block (a := ⟨b, off + k, none⟩) (hg.block b hb (fun q => by cases q))
    | some a =>
      obtain ⟨g, o, rfl⟩ := hs a rfl
      have e2 := hr (by omega) g o rfl
      rw [e] at e2
      cases e2
      exact hfr b o rfl (o + f + k) (Or.inr (by omega))⟩
theorem que_addr {w : World} {base n c : Nat} {ad : Option Addr} {l : List Int} (h : Que shI w base 3 (.slice ad n c) n l) : ∀ a, ad = some a → ∃ g o, a = ⟨g, o, none⟩ := by
  obtain ⟨a1, c1, hv, _, _, _, hs⟩ := que_shape h
  simp only [Value.slice.injEq, true_and] at hv
  obtain ⟨rfl, rfl⟩ := hv
  exact fun a e => by
    obtain ⟨g, o, e1, _⟩ := hs a e
    exact ⟨g, o, e1⟩
/- SHORT -/
set_option maxHeartbeats 4000000 in
set_option maxRecDepth 100000 in
theorem short_W {ad : Option Addr} {cap n : Nat} {l : List Int} (head : Int) (w : World) (HA : Hid (shI.At w ad cap l)) (hn : Hid (l.length = n)) (er : Int) (her : Hid (errH head l = er)) (k : Nat) (hk : Hid ((shortV head l).length = k)) :
    Calls Try.prog 11 #[.int .i64 head, .slice ad n cap] w (LsOut w k (shortV head l) er) := by
  rcases errH_cases head l with ⟨q0, qh, ql⟩ | ⟨q0, q⟩
  · obtain rfl : er = 0 := by rw [← her.out]; exact q0
    have e0 : shortV head l = shortL head l := if_pos ⟨qh, ql⟩
    rw [e0] at hk ⊢
    have h4 : n ≤ 400 := by rw [← hn.out]; exact ql.1
    obtain ⟨f, hf⟩ : ∃ f, (dnR head l).length = f := ⟨_, rfl⟩
    obtain ⟨m, hm⟩ : ∃ m, (upR head l).length = m := ⟨_, rfl⟩
    have hfm : f + m = n := by rw [← hf, ← hm, ← hn.out]; exact updn_len head l
    have HF := Lib.hid hf
    have HM := Lib.hid hm
    have HR : Hid ((dnR head l).reverse.length = f) := Lib.hid (by rw [List.length_reverse, hf])
    have hkn : k = n := by rw [← hk.out, short_len, hn.out]
    have HKD : Hid (k = f + m) := Lib.hid (by omega)
    have HKU : Hid (k = m + f) := Lib.hid (by omega)
    have hm1 : m ≤ 1048576 := by omega
    have hf1 : f ≤ 1048576 := by omega
    have QL := Lib.hid ql
    have QH := Lib.hid qh
    have HPU := Lib.hid (fun x (hx : x ∈ upR head l) => (⟨(parts_of head l).ub x hx, ql.2 x ((parts_perm head l).mem_iff.1 (List.mem_append_left _ hx))⟩ : head ≤ x ∧ 0 ≤ x ∧ x ≤ 1099511627776))
    have HPD := Lib.hid (fun x (hx : x ∈ dnR head l) => (⟨(parts_of head l).db x (List.mem_reverse.2 hx), ql.2 x ((parts_perm head l).mem_iff.1 (List.mem_append_right _ (List.mem_reverse.2 hx)))⟩ : x < head ∧ 0 ≤ x ∧ x ≤ 1099511627776))
    clear hf hm ql q0 e0 hkn
    go_enter Try.func11, Try.ntmps11
    go_upto_region 5 with (first
      | (go_at_call 33; (with_reducible refine (check_W head _ HA hn _ her).mono ?_); rintro e w1 ⟨rfl, rfl⟩)
      | (go_at_call 34; (with_reducible refine (split_W head _ HA hn h4 f m HF HM).mono ?_); rintro e w2 ⟨ba, bc, aa, ac, rfl, b2, q2, a2, l2, r2⟩)
      | fail)
    have B2 := Lib.hid (fun q => below_drewN b2 q)
    have Q2 := Lib.hid (fun q => Lib.hid (que_step q2 (below_drewN (Below.refl w2.heap.size w2) q)))
    have A2 := Lib.hid (fun q => Lib.hid (a2.step (below_drewN (Below.refl w2.heap.size w2) q)))
    have SQ := Lib.hid (que_addr q2)
    have R2 := Lib.hid r2
    by_cases hf0 : 0 < f
    · have hfd : decide ((f : Int) > 0) = true := decide_eq_true (by omega)
      by_cases hm0 : 0 < m
      · have hmd : decide ((m : Int) > 0) = true := decide_eq_true (by omega)
        obtain ⟨x, hx⟩ : ∃ x, (upR head l)[m - 1]? = some x := ⟨(upR head l)[m - 1]'(by rw [HM.out]; omega), List.getElem?_eq_getElem _⟩
        obtain ⟨y, hy⟩ : ∃ y, (dnR head l)[0]? = some y := ⟨(dnR head l)[0]'(by rw [HF.out]; omega), List.getElem?_eq_getElem _⟩
        have hxl : (upR head l).getLast? = some x := by rw [List.getLast?_eq_getElem?, HM.out]; exact hx
        have hyh : (dnR head l).head? = some y := by rw [List.head?_eq_getElem?]; exact hy
        have hdf : downF head l = decide (x - head > head - y) := by unfold downF; rw [hxl, hyh]
        obtain ⟨kx, kx0, kx1⟩ := HPU.out x (List.mem_of_getElem? hx)
        obtain ⟨ky, ky0, ky1⟩ := HPD.out y (List.mem_of_getElem? hy)
        obtain ⟨gx, ox, hax, hgx, cx⟩ := at_int a2 hx
        obtain ⟨gy, oy, hay, hgy, cy⟩ := at_int (que_at q2) hy
        rw [Nat.add_zero] at cy
        have mi : (m : Int) - 1 = ((m - 1 : Nat) : Int) := by omega
        have mi2 : IntKind.i64.wrap ((m : Int) - 1) = ((m - 1 : Nat) : Int) := by rw [IntKind.wrap_i64]; omega
        have hm11 : m - 1 < m := by omega
        have x1 : IntKind.i64.wrap (x - head) = x - head := by rw [IntKind.wrap_i64]; omega
        have x2 : IntKind.i64.wrap (head - y) = head - y := by rw [IntKind.wrap_i64]; omega
        subst hax hay
        obtain ⟨p, hp⟩ : ∃ p, m - 1 = p := ⟨_, rfl⟩
        rw [hp] at mi mi2 cx hm11
        clear hx hy hxl hyh QH qh q2 a2 b2 l2 r2
        by_cases hgt : x - head > head - y
        · have hgd : decide (x - head > head - y) = true := decide_eq_true hgt
          have HE : Hid (shortL head l = (dnR head l).reverse ++ upR head l) := Lib.hid (by unfold shortL; rw [if_pos (by rw [hdf, hgd])])
          clear hdf hgt
          go_quiet (fail)
          go_wp2_with (first
            | (go_at_call 35; (with_reducible refine (reverse_que _ (Q2.out nq)).mono ?_); rintro e w3 ⟨rfl, q3, g3, fr3⟩; have A3 := above_kept (A2.out nq).out HM.out R2.out SQ.out g3 fr3; have B3 := (B2.out nq).grown g3 (B2.out nq).size (fun j hj => (que_lt (Q2.out nq).out hj).1); have BX := Lib.hid (pstep B3 (below_alloc w3 (.cells #[.slice (some ⟨gy, oy, none⟩) f bc, .slice (some ⟨gx, ox, none⟩) m ac] 22))); have HQ := Lib.hid (heap_alloc_new w3 (.cells #[.slice (some ⟨gy, oy, none⟩) f bc, .slice (some ⟨gx, ox, none⟩) m ac] 22)); have QA := Lib.hid ((que_at q3).step (below_alloc w3 (.cells #[.slice (some ⟨gy, oy, none⟩) f bc, .slice (some ⟨gx, ox, none⟩) m ac] 22))); have AA := Lib.hid (A3.step (below_alloc w3 (.cells #[.slice (some ⟨gy, oy, none⟩) f bc, .slice (some ⟨gx, ox, none⟩) m ac] 22))); clear q3 g3 fr3 A3 B3)
            | (go_at_call 16; (with_reducible refine (concat_Int _ _ _ _ _ _ _ _ _ _ HQ HR HM QA AA hf1 hm1 k HKD).mono ?_); rintro e w4 ⟨ra, rc, rfl, a4, b4⟩; have A4 := Lib.hid a4; have B4 := Lib.hid (pstep BX.out b4); clear a4 b4)
            | fail)
          go_ret2
          exact ⟨_, _, rfl, by rw [HE.out]; exact A4.out, B4.out⟩
        · have hgd : decide (x - head > head - y) = false := decide_eq_false hgt
          have HE : Hid (shortL head l = upR head l ++ (dnR head l).reverse) := Lib.hid (by unfold shortL; rw [if_neg (by rw [hdf, hgd]; simp)])
          clear hdf hgt
          go_quiet (fail)
          go_wp2_with (first
            | (go_at_call 35; (with_reducible refine (reverse_que _ (Q2.out nq)).mono ?_); rintro e w3 ⟨rfl, q3, g3, fr3⟩; have A3 := above_kept (A2.out nq).out HM.out R2.out SQ.out g3 fr3; have B3 := (B2.out nq).grown g3 (B2.out nq).size (fun j hj => (que_lt (Q2.out nq).out hj).1); have BX := Lib.hid (pstep B3 (below_alloc w3 (.cells #[.slice (some ⟨gx, ox, none⟩) m ac, .slice (some ⟨gy, oy, none⟩) f bc] 22))); have HQ := Lib.hid (heap_alloc_new w3 (.cells #[.slice (some ⟨gx, ox, none⟩) m ac, .slice (some ⟨gy, oy, none⟩) f bc] 22)); have QA := Lib.hid ((que_at q3).step (below_alloc w3 (.cells #[.slice (some ⟨gx, ox, none⟩) m ac, .slice (some ⟨gy, oy, none⟩) f bc] 22))); have AA := Lib.hid (A3.step (below_alloc w3 (.cells #[.slice (some ⟨gx, ox, none⟩) m ac, .slice (some ⟨gy, oy, none⟩) f bc] 22))); clear q3 g3 fr3 A3 B3)
            | (go_at_call 16; (with_reducible refine (concat_Int _ _ _ _ _ _ _ _ _ _ HQ HM HR AA QA hm1 hf1 k HKU).mono ?_); rintro e w4 ⟨ra, rc, rfl, a4, b4⟩; have A4 := Lib.hid a4; have B4 := Lib.hid (pstep BX.out b4); clear a4 b4)
            | fail)
          go_ret2
          exact ⟨_, _, rfl, by rw [HE.out]; exact A4.out, B4.out⟩
      · have hmd : decide ((m : Int) > 0) = false := decide_eq_false (by omega)
        have HE : Hid (shortL head l = upR head l ++ (dnR head l).reverse) := Lib.hid (by
          unfold shortL
          rw [if_neg (by
            have h0 : upR head l = [] := List.eq_nil_of_length_eq_zero (by rw [HM.out]; omega)
            unfold downF
            rw [h0]
            simp)])
        clear QH qh q2 a2 b2 l2 r2
        go_quiet (fail)
        go_wp2_with (first
          | (go_at_call 35; (with_reducible refine (reverse_que _ (Q2.out nq)).mono ?_); rintro e w3 ⟨rfl, q3, g3, fr3⟩; have A3 := above_kept (A2.out nq).out HM.out R2.out SQ.out g3 fr3; have B3 := (B2.out nq).grown g3 (B2.out nq).size (fun j hj => (que_lt (Q2.out nq).out hj).1); have BX := Lib.hid (pstep B3 (below_alloc w3 (.cells #[.slice aa m ac, .slice ba f bc] 22))); have HQ := Lib.hid (heap_alloc_new w3 (.cells #[.slice aa m ac, .slice ba f bc] 22)); have QA := Lib.hid ((que_at q3).step (below_alloc w3 (.cells #[.slice aa m ac, .slice ba f bc] 22))); have AA := Lib.hid (A3.step (below_alloc w3 (.cells #[.slice aa m ac, .slice ba f bc] 22))); clear q3 g3 fr3 A3 B3)
          | (go_at_call 16; (with_reducible refine (concat_Int _ _ _ _ _ _ _ _ _ _ HQ HM HR AA QA hm1 hf1 k HKU).mono ?_); rintro e w4 ⟨ra, rc, rfl, a4, b4⟩; have A4 := Lib.hid a4; have B4 := Lib.hid (pstep BX.out b4); clear a4 b4)
          | fail)
        go_ret2
        exact ⟨_, _, rfl, by rw [HE.out]; exact A4.out, B4.out⟩
    · have hfd : decide ((f : Int) > 0) = false := decide_eq_false (by omega)
      have HE : Hid (shortL head l = upR head l ++ (dnR head l).reverse) := Lib.hid (by
        unfold shortL
        rw [if_neg (by
          have h0 : dnR head l = [] := List.eq_nil_of_length_eq_zero (by rw [HF.out]; omega)
          unfold downF
          rw [h0]
          cases (upR head l).getLast? <;> simp)])
      clear QH qh q2 a2 b2 l2 r2
      go_quiet (fail)
      go_wp2_with (first
        | (go_at_call 35; (with_reducible refine (reverse_que _ (Q2.out nq)).mono ?_); rintro e w3 ⟨rfl, q3, g3, fr3⟩; have A3 := above_kept (A2.out nq).out HM.out R2.out SQ.out g3 fr3; have B3 := (B2.out nq).grown g3 (B2.out nq).size (fun j hj => (que_lt (Q2.out nq).out hj).1); have BX := Lib.hid (pstep B3 (below_alloc w3 (.cells #[.slice aa m ac, .slice ba f bc] 22))); have HQ := Lib.hid (heap_alloc_new w3 (.cells #[.slice aa m ac, .slice ba f bc] 22)); have QA := Lib.hid ((que_at q3).step (below_alloc w3 (.cells #[.slice aa m ac, .slice ba f bc] 22))); have AA := Lib.hid (A3.step (below_alloc w3 (.cells #[.slice aa m ac, .slice ba f bc] 22))); clear q3 g3 fr3 A3 B3)
        | (go_at_call 16; (with_reducible refine (concat_Int _ _ _ _ _ _ _ _ _ _ HQ HM HR AA QA hm1 hf1 k HKU).mono ?_); rintro e w4 ⟨ra, rc, rfl, a4, b4⟩; have A4 := Lib.hid a4; have B4 := Lib.hid (pstep BX.out b4); clear a4 b4)
        | fail)
      go_ret2
      exact ⟨_, _, rfl, by rw [HE.out]; exact A4.out, B4.out⟩
  · obtain rfl : er = 2 := by rw [← her.out]; exact q0
    have e0 : shortV head l = [] := if_neg q
    rw [e0] at hk ⊢
    obtain rfl : k = 0 := hk.out.symm
    clear q q0 e0
    go_enter Try.func11, Try.ntmps11
    go_wp2_with (first
      | (go_at_call 33; (with_reducible refine (check_W head _ HA hn _ her).mono ?_); rintro e w1 ⟨rfl, rfl⟩)
      | fail)
    go_ret2
    exact ⟨_, _, rfl, Shape.At.nil _, Below.refl _ _⟩
end Go.Proofs.Yteabdbgllafafaa
