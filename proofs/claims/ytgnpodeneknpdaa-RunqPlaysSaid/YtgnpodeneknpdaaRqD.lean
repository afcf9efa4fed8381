/- Package runq: the walks of insert, remove, first. -/
import Derived.Test.YtgnpodeneknpdaaRqC
namespace Go.Proofs.Ytgnpodeneknpdaa
open Go.RowKit Go.Maps

set_option maxHeartbeats 1000000 in
set_option maxRecDepth 100000 in
theorem insert_W {w0 w : World} {B m L : Nat} {g : Gq} {R : Array Value} {tv : Value} {s s' : StU} {cnt : Nat} {taken : List Int} (HM : Hid (MemQ w0 w B m L g R tv taken cnt)) (HT : Hid (TellQ g s)) (i : Int) (hwf : WfI i) (hL : L < maxLen) {l : Nat} {l1 l2 : List Nat} (hl : l < 32) (HL : Hid (g.L l = l1 ++ l2)) (hi : Hid (heldU s i = false))
    (hg : Hid (GoodU s')) (ho : Hid (∀ j : Nat, ¬ j = l → lvlU s'.list (j : Int) = lvlU s.list (j : Int))) (hs : Hid (lvlU s'.list (l : Int) = l1.map g.id ++ i :: l2.map g.id)) {x : Nat} (hx : Hid (lastN (g.e l) l1 = x)) :
    Calls Try.prog 41 #[.pointer (some ⟨B, 0, none⟩), .int .i64 i, .pointer (some ⟨x, 0, none⟩)] w fun e w' => e = .returned (.tuple #[]) ∧ (∃ g', MemQ w0 w' B m (L + 1) g' R tv taken (cnt + 1) ∧ TellQ g' s') ∧ KeepQ w w' := by
  have hp : ∀ j, j < 32 → ¬ w.heap.size ∈ g.e j :: g.L j := fun j hj e => by have := HM.out.nlt hj e; omega
  obtain ⟨hy, HT'⟩ := HT.out.ins hl HL.out hp hi.out hg.out ho.out hs.out
  rw [hx.out] at hy
  obtain ⟨y, hyy⟩ : ∃ y, headN l2 (g.e l) = y := ⟨_, rfl⟩
  rw [hyy] at hy
  have xin : x ∈ g.e l :: g.L l := by
    rw [HL.out, ← hx.out]
    rcases last_mem (g.e l) l1 with e | e
    · rw [e]; exact List.mem_cons_self
    · exact List.mem_cons_of_mem _ (List.mem_append_left _ e)
  have yin : y ∈ g.e l :: g.L l := by
    rw [HL.out, ← hyy]
    rcases head_mem (g.e l) l2 with e | e
    · rw [e]; exact List.mem_cons_self
    · exact List.mem_cons_of_mem _ (List.mem_append_right _ e)
  have fi : (g.f i).isSome = false := (HT.out.held i).trans hi.out
  have nx := (HM.out.nod l hl x xin).1
  obtain ⟨_, _, c2⟩ := nx.cells
  rw [hy] at c2
  have hxl := heap_lt nx
  have M1 := HM.out.grow (l1 := l1) (l2 := l2) (l := l) (i := i) (x := x) (y := y) HL.out
  have BA := below_alloc w (.cells #[.int .i64 i, .pointer (some ⟨x, 0, none⟩), .pointer (some ⟨y, 0, none⟩)] 72)
  have HN := heap_alloc_new w (.cells #[.int .i64 i, .pointer (some ⟨x, 0, none⟩), .pointer (some ⟨y, 0, none⟩)] 72)
  have hxp : ¬ w.heap.size = x := by omega
  have TQ : TellQ (g.ins w.heap.size i l l1 l2) s' := HT'
  obtain ⟨p, hpp⟩ : ∃ p, w.heap.size = p := ⟨_, rfl⟩
  rw [hpp] at M1 HN hxp TQ
  have X1 : x ∈ g.e l :: (if l = l then l1 ++ p :: l2 else g.L l) := by
    rw [if_pos rfl]
    rw [HL.out] at xin
    simp only [List.mem_cons, List.mem_append] at xin ⊢
    rcases xin with q | q | q
    · exact Or.inl q
    · exact Or.inr (Or.inl q)
    · exact Or.inr (Or.inr (Or.inr q))
  have Y1 : y ∈ g.e l :: (if l = l then l1 ++ p :: l2 else g.L l) := by
    rw [if_pos rfl]
    rw [HL.out] at yin
    simp only [List.mem_cons, List.mem_append] at yin ⊢
    rcases yin with q | q | q
    · exact Or.inl q
    · exact Or.inr (Or.inl q)
    · exact Or.inr (Or.inr (Or.inr q))
  have P1 : p ∈ g.e l :: (if l = l then l1 ++ p :: l2 else g.L l) := by rw [if_pos rfl]; simp
  have K1 := Lib.hid (keep_below BA)
  have HX1 := Lib.hid X1
  have HY1 := Lib.hid Y1
  have HP1 := Lib.hid P1
  have HTQ := Lib.hid TQ
  have HPP := Lib.hid hpp
  have HXP := Lib.hid hxp
  have HYY := Lib.hid hyy
  have HFI := Lib.hid fi
  have HM1 := Lib.hid M1
  have HNP := Lib.hid HN
  clear hyy HT' hy HT xin yin X1 Y1 P1 BA hp TQ hpp hxp fi M1 HN hg ho hs hi nx
  go_enter Try.func41, Try.ntmps41
  go_upto_region 1 with fail
  rw [HPP.out]
  generalize w.alloc (.cells #[.int .i64 i, .pointer (some ⟨x, 0, none⟩), .pointer (some ⟨y, 0, none⟩)] 72) = w1 at HM1 HNP K1 ⊢
  obtain ⟨d0, d1, d2⟩ := trio_at HNP.out
  have hp1 := heap_lt HNP.out
  have nx1 := (HM1.out.nod l hl x HX1.out).1
  obtain ⟨_, _, e2⟩ := nx1.cells
  have fx1 := nx1.froz
  have hx1 := heap_lt nx1
  have M2 := Lib.hid (HM1.out.setN hl HX1.out p)
  have K2 := Lib.hid (K1.out.trans (HM1.out.keepN hl HX1.out 2 (.pointer (some ⟨p, 0, none⟩))))
  clear nx1 HM1 K1 HNP c2
  go_upto_region 2 with fail
  clear d0 d1 d2 hp1 e2 fx1 hx1
  generalize w1.setCell ⟨x, 2, none⟩ (.pointer (some ⟨p, 0, none⟩)) = w2 at M2 K2 ⊢
  have np2 := (M2.out.nod l hl p HP1.out).1
  obtain ⟨_, _, d2⟩ := np2.cells
  simp only [upN_other HXP.out, upN_same] at d2
  have hp2 := heap_lt np2
  have ny2 := (M2.out.nod l hl y HY1.out).1
  obtain ⟨_, e1, _⟩ := ny2.cells
  have fy2 := ny2.froz
  have hy2 := heap_lt ny2
  have M3 := Lib.hid (M2.out.setP hl HY1.out p)
  have K3 := Lib.hid (K2.out.trans (M2.out.keepN hl HY1.out 1 (.pointer (some ⟨p, 0, none⟩))))
  clear np2 ny2 M2 K2
  go_upto_region 3 with fail
  clear d2 hp2 e1 fy2 hy2
  generalize w2.setCell ⟨y, 1, none⟩ (.pointer (some ⟨p, 0, none⟩)) = w3 at M3 K3 ⊢
  have cm := M3.out.cell M3.out.rm
  have hB3 := M3.out.lt
  obtain ⟨D, o1, TD⟩ := M3.out.mp
  have O1 := Lib.hid o1
  have HTD := Lib.hid TD
  have WFi : (Lit.int .i64 i).wf = true := hwf
  clear o1 TD
  go_wp2_with (first
    | (at_mapUpdate; refine wpList_mapUpdate_own _ rfl _ _ _ 53 rfl 3 51 lawI Try.underlying53 _ m L D rfl O1.out hL _ _ (.int .i64 i) rfl rfl (keyOf_int_mk Try.underlying3 WFi) (.lit (.int .i64 (p : Int))) [] (rdP_mk p) ?_; intro w4 hown4 hg4; have K4 := Lib.hid (K3.out.trans (keep_turn M3.out.mp hg4)); have M4 := Lib.hid (M3.out.turn hg4 ⟨_, hown4, HTD.out.put O1.out.isMap (O1.out.tidy lawI) HFI.out⟩ (fun k b hk => by
        by_cases e : k = i
        · rw [e]; exact hwf
        · rw [if_neg e] at hk; exact HM.out.wf k b hk)); clear hown4 hg4)
    | fail)
  go_end0
  refine ⟨rfl, ⟨_, M4.out, ?_⟩, K4.out⟩
  have h := HTQ.out
  unfold Gq.ins at h
  rw [HYY.out, hx.out] at h
  exact h
end Go.Proofs.Ytgnpodeneknpdaa
