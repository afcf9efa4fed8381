/- Package runq: the walks of remove and first. -/
import Derived.Test.YtgnpodeneknpdaaRqD
import Derived.LaidEqlPtr
namespace Go.Proofs.Ytgnpodeneknpdaa
open Go.RowKit Go.Maps

set_option maxHeartbeats 1000000 in
set_option maxRecDepth 100000 in
theorem remove_W {w0 w : World} {B m L : Nat} {g : Gq} {R : Array Value} {tv : Value} {s s' : StU} {cnt : Nat} {taken : List Int} (HM : Hid (MemQ w0 w B m L g R tv taken (cnt + 1))) (HT : Hid (TellQ g s)) (i : Int) (hi : Hid (heldU s i = true)) (hs : Hid (s'.list = s.list.filter fun q => decide (¬ q.1 = i))) :
    Calls Try.prog 43 #[.pointer (some ⟨B, 0, none⟩), .int .i64 i] w fun e w' => e = .returned (.tuple #[]) ∧ (∃ g', MemQ w0 w' B m L g' R tv taken cnt ∧ TellQ g' s') ∧ KeepQ w w' := by
  have fi : (g.f i).isSome = true := (HT.out.held i).trans hi.out
  obtain ⟨p, hp⟩ := Option.isSome_iff_exists.1 fi
  obtain ⟨l, hl, hpl, hid⟩ := HT.out.node hp
  obtain ⟨l1, l2, hL⟩ := List.append_of_mem hpl
  have hwf : WfI i := HM.out.wf i p hp
  obtain ⟨hu, hv, HT'⟩ := HT.out.rem (s' := s') hl hL (by rw [hid]; exact hs.out)
  rw [hid] at HT'
  obtain ⟨u, huu⟩ : ∃ u, lastN (g.e l) l1 = u := ⟨_, rfl⟩
  obtain ⟨v, hvv⟩ : ∃ v, headN l2 (g.e l) = v := ⟨_, rfl⟩
  rw [huu] at hu
  rw [hvv] at hv
  have nd := HT.out.nd l hl
  rw [hL] at nd
  have uin : u = g.e l ∨ u ∈ l1 := by rw [← huu]; exact last_mem _ _
  have vin : v = g.e l ∨ v ∈ l2 := by rw [← hvv]; exact head_mem _ _
  have nd1 := List.nodup_cons.1 nd
  have nd2 := List.nodup_append.1 nd1.2
  have hpu : ¬ p = u := by
    rintro rfl
    rcases uin with e | e
    · exact nd1.1 (by rw [← e]; simp)
    · exact nd2.2.2 p e p List.mem_cons_self rfl
  have hpv : ¬ p = v := by
    rintro rfl
    rcases vin with e | e
    · exact nd1.1 (by rw [← e]; simp)
    · exact (List.nodup_cons.1 nd2.2.1).1 e
  have U1 : u ∈ g.e l :: g.L l := by
    rw [hL]
    rcases uin with e | e <;> simp [e]
  have V1 : v ∈ g.e l :: g.L l := by
    rw [hL]
    rcases vin with e | e <;> simp [e]
  have P1 : p ∈ g.e l :: g.L l := List.mem_cons_of_mem _ hpl
  obtain ⟨D, o1, TD⟩ := HM.out.mp
  have hlk := look_one o1 TD hwf
  rw [hp] at hlk
  have hlk2 : (Instr.lookup 53 (.map (some m)) (.int .i64 i) false).run Try.prog w = .ok (.pointer (some ⟨p, 0, none⟩)) w := hlk
  have cm := HM.out.cell HM.out.rm
  have hBl := HM.out.lt
  have np := (HM.out.nod l hl p P1).1
  obtain ⟨_, c1, c2⟩ := np.cells
  rw [hu] at c1
  rw [hv] at c2
  have hpl1 := heap_lt np
  have nu := (HM.out.nod l hl u U1).1
  obtain ⟨_, _, d2⟩ := nu.cells
  have fu := nu.froz
  have hul := heap_lt nu
  have M2 := Lib.hid ((HM.out.setN hl U1 v).step ((Below.refl _ _).drew))
  have K2 := Lib.hid ((HM.out.keepN hl U1 2 (.pointer (some ⟨v, 0, none⟩))).trans (keep_below ((Below.refl _ _).drew)))
  have HU1 := Lib.hid U1
  have HV1 := Lib.hid V1
  have HP1 := Lib.hid P1
  have HTQ := Lib.hid HT'
  have HUU := Lib.hid huu
  have HVV := Lib.hid hvv
  have HPU := Lib.hid hpu
  have HPV := Lib.hid hpv
  have HPP := Lib.hid hu
  have HVP := Lib.hid hv
  have HFI := Lib.hid fi
  have HLL := Lib.hid hL
  have WFi : (Lit.int .i64 i).wf = true := hwf
  clear hlk o1 TD HT' HT huu hvv hu hv nd uin vin nd1 nd2 U1 V1 P1 hpu hpv fi hL hpl hp hid np nu hs hi
  go_enter Try.func43, Try.ntmps43
  go_wp2_with fail
  go_region_with (fail)
  all_goals (
    generalize (w.setCell ⟨u, 2, none⟩ (.pointer (some ⟨v, 0, none⟩))).drew = w2 at M2 K2 ⊢
    clear hlk2 cm hBl c1 c2 hpl1 d2 fu hul
    have np2 := (M2.out.nod l hl p HP1.out).1
    obtain ⟨_, d1, d2⟩ := np2.cells
    simp only [upN_other HPU.out] at d2
    rw [HVP.out] at d2
    rw [HPP.out] at d1
    have hp2 := heap_lt np2
    have ny2 := (M2.out.nod l hl v HV1.out).1
    obtain ⟨_, e1, _⟩ := ny2.cells
    have fy2 := ny2.froz
    have hy2 := heap_lt ny2
    have M3 := Lib.hid ((M2.out.setP hl HV1.out u).step ((Below.refl _ _).drew))
    have K3 := Lib.hid (K2.out.trans ((M2.out.keepN hl HV1.out 1 (.pointer (some ⟨u, 0, none⟩))).trans (keep_below ((Below.refl _ _).drew))))
    clear np2 ny2 M2 K2
    go_wp2_with fail
    go_region_with (fail))
  all_goals (
    generalize (w2.setCell ⟨v, 1, none⟩ (.pointer (some ⟨u, 0, none⟩))).drew = w3 at M3 K3 ⊢
    clear d1 d2 hp2 e1 fy2 hy2
    have cm := M3.out.cell M3.out.rm
    have hB3 := M3.out.lt
    obtain ⟨D, o1, TD⟩ := M3.out.mp
    have O1 := Lib.hid o1
    have HTD := Lib.hid TD
    clear o1 TD
    go_wp2_with (first
      | (at_delete; refine wpList_delete_own _ rfl _ _ 53 3 rfl 51 lawI Try.underlying53 _ m L D rfl O1.out _ (.int .i64 i) rfl (keyOf_int_mk Try.underlying3 WFi) ?_; intro w4 hown4 hturn4; have K4 := Lib.hid (K3.out.trans (keep_turn M3.out.mp hturn4.grown)); have M4 := Lib.hid (M3.out.turn hturn4.grown ⟨_, hown4, HTD.out.del (O1.out.tidy lawI) HFI.out⟩ (fun k b hk => by
        by_cases e : k = i
        · rw [if_pos e] at hk; cases hk
        · rw [if_neg e] at hk; exact HM.out.wf k b hk)); clear hown4 hturn4)
      | fail)
    go_end0
    have M5 := M4.out.less (L' := fun j => if j = l then l1 ++ l2 else g.L j) (fun j _ b hb => by
      simp only at hb ⊢
      by_cases e : j = l
      · rw [if_pos e] at hb
        rw [e, HLL.out]
        simp only [List.mem_append, List.mem_cons] at hb ⊢
        rcases hb with q | q
        · exact Or.inl q
        · exact Or.inr (Or.inr q)
      · rw [if_neg e] at hb
        exact hb)
    have h := HTQ.out
    unfold Gq.rem at h
    rw [HUU.out, HVV.out] at h
    exact ⟨rfl, ⟨_, M5, h⟩, K4.out⟩)
theorem info_place : (Try.prog.info? 72).map (fun i => (i.zero, i.size, i.bytes)) = some (some (.agg #[.int .i64 0, .pointer none, .pointer none]), 3, 24) := by kernel_rfl
theorem eq_same (x : Nat) (w : World) : (binOp .eql 51 (.pointer (some ⟨x, 0, none⟩)) (.pointer (some ⟨x, 0, none⟩))).run Try.prog w = .ok (.bool true) w := by
  obtain ⟨i0, hi, _⟩ := info_parts info_place
  exact run_eql_ptr_same w ⟨x, 0, none⟩ Try.underlying51 hi
theorem eq_other {x y : Nat} {w : World} {g g' : Gq} (hx : NodR w g x) (hy : NodR w g' y) (h : ¬ x = y) : (binOp .eql 51 (.pointer (some ⟨x, 0, none⟩)) (.pointer (some ⟨y, 0, none⟩))).run Try.prog w = .ok (.bool false) w := by
  obtain ⟨i0, hi, _, hs, _⟩ := info_parts info_place
  exact run_eql_ptr_other w Try.underlying51 hi (by rw [hs]; decide) (a := ⟨x, 0, none⟩) (b := ⟨y, 0, none⟩) (fun e => h (by cases e; rfl)) hx hy
theorem NodR.step {w w' : World} {g : Gq} {b : Nat} (h : NodR w g b) (hb : Below w.heap.size w w') : NodR w' g b := heap_step h hb
theorem neq_of_eq {t : TypeId} {x y : Addr} {b : Bool} {w : World} (h : (binOp .eql t (.pointer (some x)) (.pointer (some y))).run Try.prog w = .ok (.bool b) w) : (binOp .neq t (.pointer (some x)) (.pointer (some y))).run Try.prog w = .ok (.bool (!b)) w := by
  simp only [binOp] at h ⊢
  cases hq : (Op.equal t (.pointer (some x)) (.pointer (some y))).run Try.prog w with
  | ok c w' =>
    simp [hq] at h
    obtain ⟨rfl, rfl⟩ := h
    simp [hq]
  | _ => simp [hq] at h
theorem head_self {e : Nat} {l : List Nat} (nd : (e :: l).Nodup) : headN l e = e ↔ l = [] := by
  cases l with
  | nil => exact ⟨fun _ => rfl, fun _ => rfl⟩
  | cons x r =>
    constructor
    · intro h
      have h' : x = e := h
      exact absurd (by rw [← h']; exact List.mem_cons_self) (List.nodup_cons.1 nd).1
    · intro h; cases h
set_option maxHeartbeats 1000000 in
set_option maxRecDepth 100000 in
theorem first_W {w0 w : World} {B m L : Nat} {g : Gq} {R : Array Value} {tv : Value} {s : StU} {cnt : Nat} {taken : List Int} (HM : Hid (MemQ w0 w B m L g R tv taken cnt)) (HT : Hid (TellQ g s)) (hs : Hid (¬ s.list = [])) :
    Calls Try.prog 42 #[.pointer (some ⟨B, 0, none⟩)] w fun e w' => (∃ i t, leftU s = i :: t ∧ e = .returned (.int .i64 i)) ∧ Below w.heap.size w w' := by
  go_enter Try.func42, Try.ntmps42
  go_wp2_with fail
  go_loopw [3] (fun i wr => ∃ k : Nat, k ≤ 31 ∧ i = .int .i64 k ∧ Hid (∀ j, k < j → j < 32 → g.L j = []) ∧ Hid (Below w.heap.size w wr)) (fun i _ => (intOf i).toNat)
  case atStart => exact ⟨31, Nat.le_refl _, rfl, Lib.hid (fun j h1 h2 => by omega), Lib.hid (Below.refl _ _)⟩
  case round =>
    obtain ⟨k, hk, rfl, HN, HB⟩ := hrel
    have hk32 : k < 32 := by omega
    have M1 := HM.out.step HB.out
    have ce := M1.cell (M1.re k hk32)
    have hBl := M1.lt
    have ne := (M1.nod k hk32 (g.e k) List.mem_cons_self).1
    obtain ⟨_, _, c2⟩ := ne.cells
    rw [way_head (HT.out.way k hk32)] at c2
    have hel := heap_lt ne
    have hse := head_self (HT.out.nd k hk32)
    have hk0 : (0 : Int) ≤ (k : Int) := by omega
    have hk1 : (k : Int) < 32 := by omega
    cases hL : g.L k with
    | nil =>
      rw [hL] at c2
      have c3 : wr.cell? ⟨g.e k, 2, none⟩ = some (.pointer (some ⟨g.e k, 0, none⟩)) := c2
      have hk1' : 1 ≤ k := by
        refine Nat.pos_of_ne_zero fun e0 => ?_
        subst e0
        obtain ⟨j, hj, hne⟩ := HT.out.some_level hs.out
        by_cases e : j = 0
        · rw [e] at hne; exact hne hL
        · exact hne (HN.out j (by omega) hj)
      obtain ⟨x, hx⟩ : ∃ x, g.e k = x := ⟨_, rfl⟩
      rw [hx] at ce c3 hel
      have HLL := Lib.hid hL
      have heq : ∀ q, (binOp .eql 51 (.pointer (some ⟨x, 0, none⟩)) (.pointer (some ⟨x, 0, none⟩))).run Try.prog (wr.drewN q) = .ok (.bool true) (wr.drewN q) := fun q => eq_same x _
      clear c2 hse ne hL M1 hx
      have hwq : IntKind.i64.wrap ((k : Int) - 1) = ((k - 1 : Nat) : Int) := by rw [IntKind.wrap_i64]; omega
      go_wp2_with fail
      go_quiet (fail)
      go_wp2_with fail
      go_roundw
      case rel => exact ⟨k - 1, by omega, by go_num, Lib.hid (fun j h1 h2 => by
          by_cases e : j = k
          · rw [e]; exact HLL.out
          · exact HN.out j (by omega) h2), Lib.hid (HB.out.trans ((below_drewN (Below.refl _ _) _).mono HB.out.size))⟩
      case measure => simp [intOf]; omega
    | cons b r =>
      rw [hL] at c2 hse
      have c3 : wr.cell? ⟨g.e k, 2, none⟩ = some (.pointer (some ⟨b, 0, none⟩)) := c2
      have hbe : ¬ b = g.e k := fun e => by cases hse.1 e
      have nb := (M1.nod k hk32 b (by rw [hL]; simp)).1
      obtain ⟨d0, _, _⟩ := nb.cells
      have hbl := heap_lt nb
      obtain ⟨t, ht⟩ := HT.out.first hk32 HN.out hL
      have HTT := Lib.hid ht
      obtain ⟨x, hx⟩ : ∃ x, g.e k = x := ⟨_, rfl⟩
      obtain ⟨i, hi⟩ : ∃ i, g.id b = i := ⟨_, rfl⟩
      rw [hx] at ce c3 hel hbe ne
      rw [hi] at d0 HTT
      have heq : ∀ q, (binOp .eql 51 (.pointer (some ⟨b, 0, none⟩)) (.pointer (some ⟨x, 0, none⟩))).run Try.prog (wr.drewN q) = .ok (.bool false) (wr.drewN q) := fun q => eq_other (nb.step (below_drewN (Below.refl _ _) q)) (ne.step (below_drewN (Below.refl _ _) q)) hbe
      clear c2 hse ne nb hL M1 ht hx hi
      go_wp2_with fail
      go_quiet (fail)
      go_wp2_with fail
      go_ret
      exact ⟨⟨i, t, HTT.out, rfl⟩, HB.out.trans ((below_drewN (Below.refl _ _) _).mono HB.out.size)⟩
end Go.Proofs.Ytgnpodeneknpdaa
