/- Package wait: the walks of obtain, perform. -/
import Derived.Test.YtghonbiiichedaaWtF
namespace Go.Proofs.Ytghonbiiichedaa
open Go.RowKit Go.Maps

theorem doV_1 (s : StV) (t : Int) : doV s ⟨1, t⟩ = ⟨if stV s.line t = none then s.line ++ [(t, 0)] else putV s.line t 0, s.got, s.things⟩ := by simp [doV]
theorem doV_2 (s : StV) (t : Int) : doV s ⟨2, t⟩ = ⟨if s.things = 1 then outV s.line t else wakeV (outV s.line t), s.got ++ [t], s.things - 1⟩ := by simp [doV]
theorem doV_3 (s : StV) (t : Int) : doV s ⟨3, t⟩ = ⟨if stV s.line t = some 0 ∧ s.things = 0 then putV s.line t 1 else s.line, s.got, s.things⟩ := by simp [doV]
theorem doV_4 (s : StV) (t : Int) : doV s ⟨4, t⟩ = ⟨wakeV s.line, s.got, s.things + 1⟩ := by simp [doV]
theorem doV_5 (s : StV) (t : Int) : doV s ⟨5, t⟩ = ⟨s.line.map fun q => (q.1, 2), s.got, s.things⟩ := by simp [doV]
theorem MemV.part {w0 w : World} {B m L : Nat} {P : Int → Nat} {f : Int → Option Nat} {cnt : Nat} {ps : List Nat} {l l' : List WtT} {gt : List Int} {th : Nat} {ov gv : Value} (h : MemV w0 w B m L P f cnt ps l gt th ov gv) (hl : ∀ q ∈ l', q ∈ l) : MemV w0 w B m L P f cnt ps l' gt th ov gv :=
  ⟨h.b, h.hB, h.hp, h.hm, h.mp, h.ord, h.got, fun q hq => h.thr q (hl q hq)⟩
theorem out_len {l : List WtT} (h : NodW l) {t : Int} {y : Nat} (hm : (t, y) ∈ l) : (outV l t).length + 1 = l.length := by
  obtain ⟨k, hk⟩ := List.mem_iff_getElem?.1 hm
  rw [← filter_cutW h hk, List.length_append, List.length_take, List.length_drop]
  have := (List.getElem?_eq_some_iff.1 hk).1
  omega
section
variable {w0 w : World} {B m L : Nat} {s : StV}
set_option maxHeartbeats 2000000 in
set_option maxRecDepth 100000 in
theorem obtain_W (HS : Hid (QuV w0 w B m L s)) (HG : Hid (GoodV s)) (t : Int) (ht : 0 ≤ t ∧ t ≤ 63) {y : Nat} (hst : stV s.line t = some y) {th : Nat} (hth : s.things = th + 1) (hgl : s.got.length ≤ 10000000000000) :
    Calls Try.prog 22 #[.pointer (some ⟨B, 0, none⟩), .int .i64 t] w (StepV w0 w B m L ⟨if th = 0 then outV s.line t else wakeV (outV s.line t), s.got ++ [t], th⟩) := by
  obtain ⟨i0, hi, hz0, hz1, hz2⟩ := info_parts' info_int
  obtain ⟨P, ov, gv, hM⟩ := HS.out
  have hlen := line_len HG.out
  have hwf := wfI_of ht
  have hmem := (stV_some HG.out.nod).1 hst
  have hmost := HG.out.most
  obtain ⟨c, hc⟩ := List.mem_iff_getElem?.1 hmem
  rw [hth] at hM hmost
  have hBl := hM.lt
  have cm := hM.cells.2.1
  obtain ⟨D, O1, TD⟩ := hM.mp
  have hl := look_one O1 TD hwf
  have hf : fnV P s.line t = some (P t) := by unfold fnV; rw [if_neg (by rw [hst]; simp)]
  rw [hf] at hl
  obtain ⟨p, hp⟩ : ∃ p, P t = p := ⟨_, rfl⟩
  rw [hp] at hl
  have hl2 : (Instr.lookup 37 (.map (some m)) (.int .i64 t) false).run Try.prog w = .ok (.pointer (some ⟨p, 0, none⟩)) w := hl
  obtain ⟨n, hn⟩ : ∃ n, s.line.length = n + 1 := ⟨s.line.length - 1, by have := (List.getElem?_eq_some_iff.1 hc).1; omega⟩
  have HM := Lib.hid hM
  have HP := Lib.hid hp
  have HMM := Lib.hid hmem
  have HC := Lib.hid hc
  have hcn : c < n + 1 := by rw [← hn]; exact (List.getElem?_eq_some_iff.1 hc).1
  have OO1 := Lib.hid O1
  have HTD := Lib.hid TD
  have WFi : (Lit.int .i64 t).wf = true := hwf
  have HFI : Hid ((fnV P s.line t).isSome = true) := Lib.hid (by rw [hf]; rfl)
  have HNL := Lib.hid hn
  rw [hn] at HTD
  have HHN := Lib.hid hth
  clear hM hl hf hst O1 TD hp hmem hc HS hn hth
  go_enter Try.func22, Try.ntmps22
  go_upto_region 2 with (first
    | (at_delete; refine wpList_delete_own _ rfl _ _ 37 3 rfl 50 lawI Try.underlying37 _ m L D rfl OO1.out _ (.int .i64 t) rfl (keyOf_int_mk Try.underlying3 WFi) ?_; intro w2 hown2 hturn2; have K2 := Lib.hid (keep_turn HM.out.mp hturn2.grown); have M2 := Lib.hid (HM.out.turn hturn2.grown ⟨_, hown2, HTD.out.del (OO1.out.tidy lawI) HFI.out⟩); clear hown2 hturn2)
    | fail)
  clear hl2 cm hBl OO1 HTD
  obtain ⟨ad, cap, hov, hA⟩ := M2.out.rows
  rw [ptrs_len, HNL.out] at hov
  subst hov
  have c0 := M2.out.cells.1
  have hB2 := M2.out.lt
  have HA := Lib.hid hA
  have HPL : Hid ((ptrsV P s.line).length = n + 1) := Lib.hid (by rw [ptrs_len, HNL.out])
  have hn9 : n + 1 ≤ 9223372036854775807 := by have := HNL.out; omega
  have HT2 : Hid (∀ b ∈ ptrsV P s.line, ∃ cs, w2.heap[b]? = some (.cells cs 52 (0, 0))) := Lib.hid fun b hb => by
    obtain ⟨q, hq, rfl⟩ := List.mem_map.1 hb
    exact ⟨_, (M2.out.thr q hq).1⟩
  have HX2 : Hid ((ptrsV P s.line)[c]? = some p) := Lib.hid (by simp [ptrsV, HC.out, HP.out])
  have HB2 : Hid (∀ j y, j < c → (ptrsV P s.line)[j]? = some y → ¬ y = p) := Lib.hid fun j y hj hy e => by
    unfold ptrsV at hy
    rw [List.getElem?_map, Option.map_eq_some_iff] at hy
    obtain ⟨a, ha, rfl⟩ := hy
    have h1 := M2.out.inj (List.mem_of_getElem? ha) HMM.out (by rw [e]; exact HP.out.symm)
    have h2 := nod_at HG.out.nod ha HC.out h1
    omega
  clear hA
  go_upto_region 3 with (first
    | (go_at_call 25; (with_reducible refine (indexP _ HA HPL hn9 HT2 HX2 HB2).mono ?_); rintro e w3 ⟨rfl, hw3⟩; have hw3' := hw3.symm; subst hw3'; clear hw3)
    | fail)
  have O2 : Hid (w2.ownsRow w0.heap.size 50 1 (.slice ad (n + 1) cap) (n + 1) (shP.flat (ptrsV P s.line))) := Lib.hid (by have h := M2.out.ord; rw [HPL.out] at h; exact h)
  have hw1 : IntKind.i64.wrap ((c : Int) + 1) = (c : Int) + 1 := by rw [IntKind.wrap_i64]; have := HNL.out; omega
  have HO3 : Hid (∀ w3 : World, w3.ownsRow w0.heap.size 50 1 (.slice ad n cap) n (shP.flat ((ptrsV P s.line).take c ++ (ptrsV P s.line).drop (c + 1))) → w3.ownsRow w0.heap.size 50 1 (.slice ad n cap) (ptrsV P (outV s.line t)).length (shP.flat (ptrsV P (outV s.line t)))) := Lib.hid fun w3 own3 => by
    have h1 := out_len HG.out.nod HMM.out
    have h2 := ptrs_out (P := P) HG.out.nod HC.out
    simp only at h2
    rw [h2] at own3
    have h3 : (ptrsV P (outV s.line t)).length = n := by
      rw [ptrs_len]
      have h4 := HNL.out
      omega
    rw [h3]
    exact own3
  clear HT2 HX2 HB2 HA
  go_upto_region 4 with (first
    | (go_at_call 26; (with_reducible refine (deleteP _ _ c _ _ _ _ O2 HPL hcn).mono ?_); rintro e w3 ⟨n', hn', rfl, own3, grow3⟩; have hnn : n = n' := (by omega); subst hnn; have O3 := Lib.hid (HO3.out _ own3); have hp3 := M2.out.putO (l' := outV s.line t) grow3 O3.out (fun q hq => (List.mem_filter.1 hq).1); have M3 := Lib.hid hp3.2; have K3 := Lib.hid ((K2.out.trans (keep_row M2.out.ord (Or.inr rfl) grow3)).trans (keep_set hp3.1 (Or.inr rfl) (i := 0) (u := .slice ad n cap))); have cc3 := four_at hp3.1; have hB3 := heap_lt hp3.1; have fz3 := fun i => frozen_of_row w3 B i _ _ hp3.1; clear own3 grow3 hp3 hn')
    | fail)
  clear c0 hB2 cc3 hB3 fz3 hw1
  generalize w3.setCell ⟨B, 0, none⟩ (.slice ad n cap) = w4 at M3 K3 ⊢
  obtain ⟨ga, gc, hgv, _⟩ := own_shape M3.out.got
  obtain ⟨gn, hgn⟩ : ∃ gn, s.got.length = gn := ⟨_, rfl⟩
  rw [hgn] at hgv hgl
  subst hgv
  have c3 := M3.out.cells.2.2.2
  have hB4 := M3.out.lt
  have BX := below_alloc w4 (.cells #[.int .i64 t] 3)
  have M4 := Lib.hid (M3.out.step BX)
  have K4 := Lib.hid (K3.out.trans (keep_below BX))
  have X4 := Lib.hid (int_lit w4 t 1)
  have O4 : Hid ((w4.alloc (.cells #[.int .i64 t] 3)).ownsRow w0.heap.size 3 1 (.slice ga gn gc) gn (shI.flat s.got)) := Lib.hid (by have h := M4.out.got; rw [hgn] at h; exact h)
  have HGN := Lib.hid hgn
  have hbs := M4.out.b.size
  clear hgn BX
  go_upto_region 5 with (first
    | (at_builtin; refine wpList_append_n shI rfl _ _ 24 rfl w0.heap.size 3 i0 _ 8 Try.underlying24 hi hz0 hz1 hz2 rfl (.slice ga gn gc) gn s.got [t] HGN rfl O4.out (some ⟨w4.heap.size, 0, none⟩) 1 1 rfl (Lib.hid rfl) X4.out (by unfold maxLen; omega) (by omega) hbs ?_; intro ra5 rc5 w5 own5 grow5 _; have O5 : Hid (w5.ownsRow w0.heap.size 3 1 (.slice ra5 (gn + 1) rc5) (s.got ++ [t]).length (shI.flat (s.got ++ [t]))) := Lib.hid (by rw [List.length_append, HGN.out]; exact own5); have hp5 := M4.out.putG grow5 O5.out; have M5 := Lib.hid hp5.2; have K5 := Lib.hid ((K4.out.trans (keep_row M4.out.got (Or.inl rfl) grow5)).trans (keep_set hp5.1 (Or.inr rfl) (i := 3) (u := .slice ra5 (gn + 1) rc5))); have cc5 := four_at hp5.1; have hB5 := heap_lt hp5.1; have fz5 := fun i => frozen_of_row w5 B i _ _ hp5.1; clear own5 grow5 hp5)
    | fail)
  clear c3 hB4 cc5 hB5 fz5
  generalize w5.setCell ⟨B, 3, none⟩ (.slice ra5 (gn + 1) rc5) = w6 at M5 K5 ⊢
  have c2 := M5.out.cells.2.2.1
  have hB6 := M5.out.lt
  have fz6 := M5.out.froz
  have hw2 : IntKind.i64.wrap (((th + 1 : Nat) : Int) - 1) = (th : Int) := by rw [IntKind.wrap_i64]; omega
  have M6 := Lib.hid (M5.out.putN th)
  have K6 := Lib.hid (K5.out.trans (M5.out.keepB 2 (.int .i64 (th : Nat))))
  clear M5 K5
  go_upto_region 6 with fail
  clear c2 hB6 fz6 hw2
  generalize w6.setCell ⟨B, 2, none⟩ (.int .i64 ((th : Nat) : Int)) = w7 at M6 K6 ⊢
  have c2 := M6.out.cells.2.2.1
  have hB7 := M6.out.lt
  have hnm := nod_names (l := s.line) (l' := s.line) rfl HG.out.nod
  have HOL := out_len HG.out.nod HMM.out
  have HFL : Hid ((fun k => if k = t then none else fnV P s.line k) = fnV P (outV s.line t)) := Lib.hid fn_out.symm
  have HCL : Hid (n = (outV s.line t).length) := Lib.hid (by have := HNL.out; omega)
  rw [HFL.out] at M6
  have HNO : Hid (NodW (outV s.line t)) := Lib.hid (HG.out.nod.filter _)
  by_cases h0 : th = 0
  · subst h0
    go_wp2_with fail
    go_end0
    refine ⟨rfl, ⟨P, .slice ad n cap, .slice ra5 (gn + 1) rc5, ?_⟩, K6.out⟩
    try rw [if_pos rfl]
    simp only
    rw [← HCL.out]
    exact M6.out
  · have h1 : (0 : Int) < (th : Int) := by omega
    have h2 : decide ((0 : Int) < (th : Int)) = true := decide_eq_true h1
    go_wp2_with (first
      | (go_at_call 23; (with_reducible refine (wakeFirst_W M6 HNO).mono ?_); rintro e w8 ⟨rfl, m8, k8⟩; have M8 := Lib.hid m8; have K8 := Lib.hid (K6.out.trans k8); clear m8 k8)
      | fail)
    go_end0
    refine ⟨rfl, ⟨P, .slice ad n cap, .slice ra5 (gn + 1) rc5, ?_⟩, K8.out⟩
    try rw [if_neg h0]
    have en := wake_names (outV s.line t)
    simp only
    rw [fn_names en, len_names en, ptrs_names en, ← HCL.out]
    exact M8.out
end
end Go.Proofs.Ytghonbiiichedaa
