/- Package lift: slices.Max, Min; corebellref.SShort. -/
import Derived.Test.YteabdbgllafafaaLftD
import Derived.Test.YteabdbgllafafaaMnx
namespace Go.Proofs.Yteabdbgllafafaa
open Go.RowKit

theorem fold_max : ∀ (l : List Int) (a : Int), l.foldl max a ∈ a :: l ∧ ∀ x ∈ a :: l, x ≤ l.foldl max a
  | [], a => ⟨List.mem_cons_self, fun x hx => by simp at hx; rw [hx]; exact Int.le_refl _⟩
  | b :: r, a => by
    obtain ⟨h1, h2⟩ := fold_max r (max a b)
    rw [List.foldl_cons]
    refine ⟨?_, fun x hx => ?_⟩
    · rcases List.mem_cons.1 h1 with h1 | h1
      · rw [h1]
        by_cases g : a ≤ b
        · rw [Int.max_eq_right g]; simp
        · rw [Int.max_eq_left (by omega)]; simp
      · exact List.mem_cons_of_mem _ (List.mem_cons_of_mem _ h1)
    · have h3 := h2 (max a b) List.mem_cons_self
      rcases List.mem_cons.1 hx with rfl | hx
      · omega
      · rcases List.mem_cons.1 hx with rfl | hx
        · omega
        · exact h2 x (List.mem_cons_of_mem _ hx)
theorem fold_min : ∀ (l : List Int) (a : Int), l.foldl min a ∈ a :: l ∧ ∀ x ∈ a :: l, l.foldl min a ≤ x
  | [], a => ⟨List.mem_cons_self, fun x hx => by simp at hx; rw [hx]; exact Int.le_refl _⟩
  | b :: r, a => by
    obtain ⟨h1, h2⟩ := fold_min r (min a b)
    rw [List.foldl_cons]
    refine ⟨?_, fun x hx => ?_⟩
    · rcases List.mem_cons.1 h1 with h1 | h1
      · rw [h1]
        by_cases g : a ≤ b
        · rw [Int.min_eq_left g]; simp
        · rw [Int.min_eq_right (by omega)]; simp
      · exact List.mem_cons_of_mem _ (List.mem_cons_of_mem _ h1)
    · have h3 := h2 (min a b) List.mem_cons_self
      rcases List.mem_cons.1 hx with rfl | hx
      · omega
      · rcases List.mem_cons.1 hx with rfl | hx
        · omega
        · exact h2 x (List.mem_cons_of_mem _ hx)
theorem maxOf_is {l : List Int} {mx : Int} (h1 : mx ∈ l) (h2 : ∀ x ∈ l, x ≤ mx) : Lib.maxOf l = mx := by
  cases l with
  | nil => cases h1
  | cons a r =>
    obtain ⟨q1, q2⟩ := fold_max (a :: r) a
    have q1' : (a :: r).foldl max a ∈ a :: r := by
      rcases List.mem_cons.1 q1 with q | q
      · rw [q]; exact List.mem_cons_self
      · exact q
    have := h2 _ q1'
    have := q2 mx (List.mem_cons_of_mem _ h1)
    show (a :: r).foldl max a = mx
    omega
theorem minOf_is {l : List Int} {mn : Int} (h1 : mn ∈ l) (h2 : ∀ x ∈ l, mn ≤ x) : Lib.minOf l = mn := by
  cases l with
  | nil => cases h1
  | cons a r =>
    obtain ⟨q1, q2⟩ := fold_min (a :: r) a
    have q1' : (a :: r).foldl min a ∈ a :: r := by
      rcases List.mem_cons.1 q1 with q | q
      · rw [q]; exact List.mem_cons_self
      · exact q
    have := h2 _ q1'
    have := q2 mn (List.mem_cons_of_mem _ h1)
    show (a :: r).foldl min a = mn
    omega
theorem cells_int {w : World} {ad : Option Addr} {cap : Nat} {l : List Int} (HA : shI.At w ad cap l) (h0 : 0 < l.length) : ∃ g off, ad = some ⟨g, off, none⟩ ∧ ∀ j, j < l.length → w.cell? ⟨g, off + j, none⟩ = some (.int .i64 (l.getD j 0)) := by
  obtain ⟨g, off, rfl, _, _⟩ := HA.2 h0
  refine ⟨g, off, rfl, fun j hj => ?_⟩
  obtain ⟨b, o, e, _, h⟩ := at_int HA (List.getElem?_eq_getElem hj)
  cases e
  rw [h]
  simp [hj]
theorem max_I {ad : Option Addr} {cap n : Nat} {l : List Int} (w : World) (HA : Hid (shI.At w ad cap l)) (hn : Hid (l.length = n)) (hnb : n ≤ 9223372036854775807) (mx : Int) (h1 : Hid (mx ∈ l)) (h2 : Hid (∀ x ∈ l, x ≤ mx)) :
    Calls Try.prog 27 #[.slice ad n cap] w fun e w' => e = .returned (.int .i64 mx) ∧ w = w' := by
  have e := hn.out
  subst e
  have h0 : 0 < l.length := List.length_pos_of_mem h1.out
  obtain ⟨g, off, rfl, hc⟩ := cells_int HA.out h0
  refine (max_any g off l.length cap l w h0 (Nat.le_refl _) hnb hc).mono ?_
  rintro e w' ⟨rfl, rfl⟩
  rw [List.take_length, maxOf_is h1.out h2.out]
  exact ⟨rfl, rfl⟩
theorem min_I {ad : Option Addr} {cap n : Nat} {l : List Int} (w : World) (HA : Hid (shI.At w ad cap l)) (hn : Hid (l.length = n)) (hnb : n ≤ 9223372036854775807) (mn : Int) (h1 : Hid (mn ∈ l)) (h2 : Hid (∀ x ∈ l, mn ≤ x)) :
    Calls Try.prog 26 #[.slice ad n cap] w fun e w' => e = .returned (.int .i64 mn) ∧ w = w' := by
  have e := hn.out
  subst e
  have h0 : 0 < l.length := List.length_pos_of_mem h1.out
  obtain ⟨g, off, rfl, hc⟩ := cells_int HA.out h0
  refine (min_any g off l.length cap l w h0 (Nat.le_refl _) hnb hc).mono ?_
  rintro e w' ⟨rfl, rfl⟩
  rw [List.take_length, minOf_is h1.out h2.out]
  exact ⟨rfl, rfl⟩
set_option maxHeartbeats 4000000 in
set_option maxRecDepth 100000 in
theorem sshort_W {ad : Option Addr} {cap n : Nat} {l : List Int} (head : Int) (w : World) (HA : Hid (shI.At w ad cap l)) (hn : Hid (l.length = n)) (QH : Hid (okH head)) (QL : Hid (okL l)) :
    Calls Try.prog 17 #[.int .i64 head, .slice ad n cap] w fun e w' => ∃ ra rc, e = .returned (.slice ra n rc) ∧ shI.At w' ra rc (shortL head l) ∧ Below w.heap.size w w' := by
  obtain ⟨i0, hi, hz0, hz1, hz2⟩ := info_parts info_int
  by_cases h0 : n = 0
  · subst h0
    have HS : Hid (shortL head l = []) := Lib.hid (List.eq_nil_of_length_eq_zero ((short_len head l).trans hn.out))
    go_enter Try.func17, Try.ntmps17
    go_wp2_with fail
    go_ret
    exact ⟨none, 0, rfl, by rw [HS.out]; exact Shape.At.nil _, Below.refl _ _⟩
  · have hl : ¬ l = [] := fun e => h0 (by rw [← hn.out, e]; rfl)
    obtain ⟨mx, mn, m1, m2, m3, m4⟩ := ends_there hl
    have M1 := Lib.hid m1
    have M2 := Lib.hid m2
    have M3 := Lib.hid m3
    have M4 := Lib.hid m4
    have HSI := Lib.hid (short_is (h := head) m1 m2 m3 m4)
    have h4 : n ≤ 400 := by rw [← hn.out]; exact QL.out.1
    have hnb : n ≤ 8796093022208 := by omega
    have hn63 : n ≤ 9223372036854775807 := by omega
    obtain ⟨hx0, hx1⟩ := QL.out.2 mx m1
    obtain ⟨hy0, hy1⟩ := QL.out.2 mn m2
    obtain ⟨hh0, hh1⟩ := QH.out
    obtain ⟨nu, hu⟩ : ∃ nu, (upL head l).length = nu := ⟨_, rfl⟩
    obtain ⟨nd, hd⟩ : ∃ nd, (dnL head l).length = nd := ⟨_, rfl⟩
    have HU := Lib.hid hu
    have HD := Lib.hid hd
    have HUR : Hid ((upR head l).length = nu) := Lib.hid ((srt_perm _).length_eq.trans hu)
    have HDR : Hid ((dnR head l).reverse.length = nd) := Lib.hid (by rw [List.length_reverse]; exact (srt_perm _).length_eq.trans hd)
    have hle := updn_len head l
    have hud : nd + nu = n := by rw [← hn.out, ← hle, HUR.out, ← HDR.out, List.length_reverse]
    have HKD := Lib.hid hud
    have HKU : Hid (nu + nd = n) := Lib.hid (by omega)
    have hnu : nu ≤ 400 := by omega
    have hnd : nd ≤ 400 := by omega
    have h0d : decide ((n : Int) = 0) = false := decide_eq_false (by omega)
    have x1 : IntKind.i64.wrap (mx - head) = mx - head := by rw [IntKind.wrap_i64]; omega
    have x2 : IntKind.i64.wrap (head - mn) = head - mn := by rw [IntKind.wrap_i64]; omega
    clear hu hd hle hud m1 m2 m3 m4 hl
    by_cases hg : mx - head > head - mn
    · have hgd : decide (mx - head > head - mn) = true := decide_eq_true hg
      have HE : Hid (shortL head l = (dnR head l).reverse ++ upR head l) := Lib.hid (by rw [HSI.out]; exact if_pos hg)
      clear hg
      go_enter Try.func17, Try.ntmps17
      go_wp2_with (first
        | (go_at_call 14; (with_reducible refine (sparts_W head _ HA hn hnb nu nd HU HD).mono ?_); rintro e w2 ⟨ua, uc, da, dc, rfl, t2⟩; have T2 := Lib.hid t2; have Q2 := Lib.hid (que_own (S := shI) t2.d t2.dl); clear t2)
        | (go_at_call 35; (with_reducible refine (reverse_que _ Q2).mono ?_); rintro e w3 ⟨rfl, q3, g3, fr3⟩; have Q3 := Lib.hid q3; have U3 := Lib.hid (own_kept T2.out.u g3 (fun x hx e => T2.out.ap x hx e.symm)); have B3 := Lib.hid (T2.out.b.grown g3 T2.out.b.size (fun j hj => (que_lt Q2.out hj).1)); have A3 := Lib.hid (HA.out.step B3.out); have UA := Lib.hid (Shape.At.own (S := shI) U3.out HUR.out); have S3 := B3.out.size; clear q3 g3 fr3)
        | (go_at_call 27; (with_reducible refine (max_I _ A3 hn hn63 mx M1 M3).mono ?_); rintro e w5 ⟨rfl, rfl⟩)
        | (go_at_call 26; (with_reducible refine (min_I _ A3 hn hn63 mn M2 M4).mono ?_); rintro e w5 ⟨rfl, rfl⟩)
        | (at_builtin; refine wpList_append_que shI rfl _ _ 22 rfl w.heap.size 3 i0 _ 8 Try.underlying22 hi hz0 hz1 hz2 rfl (.slice da nd dc) nd (dnR head l).reverse (upR head l) rfl Q3.out ua nu uc rfl HUR UA.out (by unfold maxLen; omega) (by omega) S3 ?_; intro ra rc w4 q4 g4 _; have A4 := Lib.hid (que_at q4); have B4 := Lib.hid (B3.out.grown g4 B3.out.size (fun j hj => (que_lt Q3.out hj).1)); clear q4 g4)
        | fail)
      go_ret
      exact ⟨ra, rc, by rw [HKD.out]; rfl, by rw [HE.out]; exact A4.out, B4.out⟩
    · have hgd : decide (mx - head > head - mn) = false := decide_eq_false hg
      have HE : Hid (shortL head l = upR head l ++ (dnR head l).reverse) := Lib.hid (by rw [HSI.out]; exact if_neg hg)
      clear hg
      go_enter Try.func17, Try.ntmps17
      go_wp2_with (first
        | (go_at_call 14; (with_reducible refine (sparts_W head _ HA hn hnb nu nd HU HD).mono ?_); rintro e w2 ⟨ua, uc, da, dc, rfl, t2⟩; have T2 := Lib.hid t2; have Q2 := Lib.hid (que_own (S := shI) t2.d t2.dl); clear t2)
        | (go_at_call 35; (with_reducible refine (reverse_que _ Q2).mono ?_); rintro e w3 ⟨rfl, q3, g3, fr3⟩; have Q3 := Lib.hid q3; have U3 := Lib.hid (own_kept T2.out.u g3 (fun x hx e => T2.out.ap x hx e.symm)); have B3 := Lib.hid (T2.out.b.grown g3 T2.out.b.size (fun j hj => (que_lt Q2.out hj).1)); have A3 := Lib.hid (HA.out.step B3.out); have DA := Lib.hid (que_at Q3.out); have S3 := B3.out.size; clear q3 g3 fr3)
        | (go_at_call 27; (with_reducible refine (max_I _ A3 hn hn63 mx M1 M3).mono ?_); rintro e w5 ⟨rfl, rfl⟩)
        | (go_at_call 26; (with_reducible refine (min_I _ A3 hn hn63 mn M2 M4).mono ?_); rintro e w5 ⟨rfl, rfl⟩)
        | (at_builtin; refine wpList_append_n shI rfl _ _ 22 rfl w.heap.size 3 i0 _ 8 Try.underlying22 hi hz0 hz1 hz2 rfl (.slice ua nu uc) nu (upR head l) (dnR head l).reverse HUR rfl U3.out da nd dc rfl HDR DA.out (by unfold maxLen; omega) (by omega) S3 ?_; intro ra rc w4 q4 g4 _; have A4 := Lib.hid (Shape.At.own (S := shI) q4 (by rw [List.length_append, HUR.out, HDR.out])); have B4 := Lib.hid (B3.out.grown g4 B3.out.size (fun j hj => (own_lt U3.out hj).1)); clear q4 g4)
        | fail)
      go_ret
      exact ⟨ra, rc, by rw [HKU.out]; rfl, by rw [HE.out]; exact A4.out, B4.out⟩
end Go.Proofs.Yteabdbgllafafaa
