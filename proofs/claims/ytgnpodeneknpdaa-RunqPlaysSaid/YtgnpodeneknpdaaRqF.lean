/- Package runq: the walk of perform. -/
import Derived.Test.YtgnpodeneknpdaaRqE
namespace Go.Proofs.Ytgnpodeneknpdaa
open Go.RowKit Go.Maps

theorem int_lit (X : World) (x : Int) (cap : Nat) : shI.At (X.alloc (.cells #[.int .i64 x] 3)) (some ⟨X.heap.size, 0, none⟩) cap [x] :=
  Shape.At.lit (S := shI) [x] (heap_alloc_new X _)
theorem err_step {s : StU} {o : RuT} (h : errU s o = 0) : stepU s o = doU s o := by unfold stepU; rw [if_pos h]
theorem do_1 (s : StU) (i l : Int) : doU s ⟨1, i, l⟩ = ⟨putU (addP l) (i, l) s.list, s.taken⟩ := by simp [doU]
theorem do_2 (s : StU) (i l : Int) : doU s ⟨2, i, l⟩ = ⟨putU (headP l) (i, l) s.list, s.taken⟩ := by simp [doU]
theorem do_3 (s : StU) (i l : Int) : doU s ⟨3, i, l⟩ = takeU s := by simp [doU]
theorem do_4 (s : StU) (i l : Int) : doU s ⟨4, i, l⟩ = ⟨s.list.filter fun q => decide (¬ q.1 = i), s.taken⟩ := by simp [doU]
set_option maxHeartbeats 1000000 in
set_option maxRecDepth 100000 in
theorem per_add {w0 w : World} {B m L : Nat} {s : StU} (H : Hid (QuS w0 w B m L s)) (i : Int) (l : Nat) (he : errU s ⟨1, i, (l : Int)⟩ = 0) (hwf : WfI i) (hL : L < maxLen) :
    Calls Try.prog 26 #[.pointer (some ⟨B, 0, none⟩), .agg #[.int .i64 1, .int .i64 i, .int .i64 (l : Int)]] w (StepQ w0 w B m (L + 1) (doU s ⟨1, i, (l : Int)⟩)) := by
  obtain ⟨g, R, tv, HM, HT⟩ := H.out
  have hr := errU_in he (Or.inl rfl)
  simp only at hr
  have hl : l < 32 := by omega
  have hgood := good_stepU HT.good ⟨1, i, (l : Int)⟩
  rw [err_step he] at hgood
  have hdo := do_1 s i (l : Int)
  have hlen : (doU s ⟨1, i, (l : Int)⟩).list.length = s.list.length + 1 := by rw [hdo]; exact len_putU
  have htk : (doU s ⟨1, i, (l : Int)⟩).taken = s.taken := by rw [hdo]
  have ho : ∀ j : Nat, ¬ j = l → lvlU (doU s ⟨1, i, (l : Int)⟩).list (j : Int) = lvlU s.list (j : Int) := fun j hj => by
    rw [hdo]; exact lvl_put_other (by simp only; omega)
  have hs : lvlU (doU s ⟨1, i, (l : Int)⟩).list (l : Int) = (g.L l).map g.id ++ i :: ([] : List Nat).map g.id := by
    rw [hdo, HT.ids l hl]; exact lvl_add HT.good.srt
  have B0 := below_alloc w (.cells #[.int .i64 1, .int .i64 i, .int .i64 (l : Int)] 34)
  have W1 := HM.step B0
  have T1 := trio_at (heap_alloc_new w (.cells #[.int .i64 1, .int .i64 i, .int .i64 (l : Int)] 34))
  have ce := W1.cell (W1.re l hl)
  have hBl := W1.lt
  have ne := (W1.nod l hl (g.e l) List.mem_cons_self).1
  obtain ⟨_, c1, _⟩ := ne.cells
  rw [way_last (HT.way l hl)] at c1
  have hel := heap_lt ne
  obtain ⟨x, hx⟩ : ∃ x, lastN (g.e l) (g.L l) = x := ⟨_, rfl⟩
  rw [hx] at c1
  obtain ⟨y, hy⟩ : ∃ y, g.e l = y := ⟨_, rfl⟩
  rw [hy] at c1 ce hel
  have hk0 : (0 : Int) ≤ (l : Int) := by omega
  have hk1 : (l : Int) < 32 := by omega
  have BD : Below w.heap.size w (w.alloc (.cells #[.int .i64 1, .int .i64 i, .int .i64 (l : Int)] 34)).drew := B0.drew
  have MD := Lib.hid (HM.step BD)
  have KD := Lib.hid (keep_below BD)
  have TD := Lib.hid HT
  have HG := Lib.hid hgood
  have HO := Lib.hid ho
  have HS := Lib.hid hs
  have HX := Lib.hid hx
  have HH := Lib.hid hr.2
  have HLL : Hid (g.L l = g.L l ++ []) := Lib.hid (List.append_nil _).symm
  have HLEN := Lib.hid hlen
  have HTK := Lib.hid htk
  clear hgood ho hs hx hr hdo hlen htk hy HT W1 B0 BD ne he H
  go_enter Try.func26, Try.ntmps26
  go_wp2_with fail
  go_region_with (first
    | (go_at_call 41; (with_reducible refine (insert_W MD TD i hwf hL hl HLL HH HG HO HS HX).mono ?_); rintro e w4 ⟨rfl, h4, k4⟩; have H4 := Lib.hid h4; have K4 := Lib.hid k4; clear h4 k4)
    | fail)
  all_goals go_wp2_with fail
  all_goals go_end0
  all_goals (
    obtain ⟨g', m4, t4⟩ := H4.out
    exact ⟨rfl, ⟨g', R, tv, by rw [HTK.out, HLEN.out]; exact m4, t4⟩, KD.out.trans K4.out⟩)
end Go.Proofs.Ytgnpodeneknpdaa
