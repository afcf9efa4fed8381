/- Package wait: the walk of perform. -/
import Derived.Test.YtghonbiiichedaaWtG
namespace Go.Proofs.Ytghonbiiichedaa
open Go.RowKit Go.Maps

section
variable {w0 w : World} {B m L : Nat} {s : StV}
/-- Where the line has turned, but for the names in it. -/
theorem quV_names {P : Int → Nat} {ov gv : Value} {l : List WtT} {th : Nat} (hn : l.map (·.1) = s.line.map (·.1)) (h : MemV w0 w B m L P (fnV P s.line) s.line.length (ptrsV P s.line) l s.got th ov gv) : QuV w0 w B m L ⟨l, s.got, th⟩ := by
  refine ⟨P, ov, gv, ?_⟩
  simp only
  rw [fn_names hn, len_names hn, ptrs_names hn]
  exact h
theorem put_self : ∀ {l : List WtT} {t : Int} {y : Nat}, NodW l → (t, y) ∈ l → putV l t y = l := fun {l t y} hn hm => by
  unfold putV
  conv => rhs; rw [← List.map_id l]
  refine List.map_congr_left fun q hq => ?_
  split
  · rename_i e
    obtain ⟨i, hi⟩ := List.mem_iff_getElem?.1 hm
    obtain ⟨j, hj⟩ := List.mem_iff_getElem?.1 hq
    have h2 := nod_at hn hj hi e
    subst h2
    rw [hi] at hj
    cases hj
    rfl
  · rfl
set_option maxHeartbeats 2000000 in
set_option maxRecDepth 100000 in
theorem per_prepare (HS : Hid (QuV w0 w B m L s)) (HG : Hid (GoodV s)) (t : Int) (he : errV s ⟨1, t⟩ = 0) (hL : L < maxLen) :
    Calls Try.prog 16 #[.pointer (some ⟨B, 0, none⟩), .agg #[.int .i64 1, .int .i64 t]] w (StepV w0 w B m (L + 1) (doV s ⟨1, t⟩)) := by
  have ht := (errV_rng he).2
  have hns := errV_self he (Or.inl rfl)
  simp only at ht hns
  have BX := below_alloc w (.cells #[.int .i64 1, .int .i64 t] 35)
  have Q1 := Lib.hid (HS.out.step BX)
  have K1 := Lib.hid (keep_below BX)
  obtain ⟨t0, t1⟩ := pair_at (heap_alloc_new w (.cells #[.int .i64 1, .int .i64 t] 35))
  rw [doV_1]
  clear BX he
  rcases st_three HG.out (t := t) with hst | ⟨y, hst, _, hy⟩
  · rw [if_pos hst]
    have HC := Lib.hid (prepare_new Q1 HG t ht hst hL)
    clear hst
    go_enter Try.func16, Try.ntmps16
    go_wp2_with (first
      | (go_at_call 21; (with_reducible refine HC.out.mono ?_); rintro e w2 ⟨rfl, q2, k2⟩; have Q2 := Lib.hid q2; have K2 := Lib.hid (K1.out.trans k2); clear q2 k2)
      | fail)
    go_end0
    exact ⟨rfl, Q2.out, K2.out⟩
  · have hy1 : ¬ y = 1 := fun e => hns (by rw [hst, e])
    rw [if_neg (by rw [hst]; simp)]
    have HC := Lib.hid (prepare_old Q1 HG t ht hst hy1)
    clear hst hy hy1
    go_enter Try.func16, Try.ntmps16
    go_wp2_with (first
      | (go_at_call 21; (with_reducible refine HC.out.mono ?_); rintro e w2 ⟨rfl, q2, k2⟩; have Q2 := Lib.hid (q2.more (Nat.le_succ L)); have K2 := Lib.hid (K1.out.trans k2); clear q2 k2)
      | fail)
    go_end0
    exact ⟨rfl, Q2.out, K2.out⟩
set_option maxHeartbeats 2000000 in
set_option maxRecDepth 100000 in
theorem per_look (HS : Hid (QuV w0 w B m L s)) (HG : Hid (GoodV s)) (t : Int) (he : errV s ⟨2, t⟩ = 0) (hgl : s.got.length ≤ 10000000000000) :
    Calls Try.prog 16 #[.pointer (some ⟨B, 0, none⟩), .agg #[.int .i64 2, .int .i64 t]] w (StepV w0 w B m (L + 1) (doV s ⟨2, t⟩)) := by
  have ht := (errV_rng he).2
  simp only at ht
  obtain ⟨h1, h2⟩ := errV_2 he
  have BX := below_alloc w (.cells #[.int .i64 2, .int .i64 t] 35)
  have Q1 := Lib.hid (HS.out.step BX)
  have K1 := Lib.hid (keep_below BX)
  obtain ⟨t0, t1⟩ := pair_at (heap_alloc_new w (.cells #[.int .i64 2, .int .i64 t] 35))
  clear BX he
  obtain ⟨y, hst⟩ : ∃ y, stV s.line t = some y := by
    cases h : stV s.line t with
    | none => exact absurd h h1
    | some y => exact ⟨y, rfl⟩
  obtain ⟨th, hth⟩ : ∃ th, s.things = th + 1 := ⟨s.things - 1, by omega⟩
  have hdo : doV s ⟨2, t⟩ = ⟨if th = 0 then outV s.line t else wakeV (outV s.line t), s.got ++ [t], th⟩ := by
    rw [doV_2, hth]
    simp only [Nat.add_sub_cancel]
    congr 1
    by_cases h : th = 0
    · rw [if_pos h, if_pos (by omega)]
    · rw [if_neg h, if_neg (by omega)]
  rw [hdo]
  have HC := Lib.hid (obtain_W Q1 HG t ht hst hth hgl)
  clear hst hth hdo h1 h2
  generalize (if th = 0 then outV s.line t else wakeV (outV s.line t)) = l2 at HC ⊢
  go_enter Try.func16, Try.ntmps16
  go_wp2_with (first
    | (go_at_call 22; (with_reducible refine HC.out.mono ?_); rintro e w2 ⟨rfl, q2, k2⟩; have Q2 := Lib.hid (q2.more (Nat.le_succ L)); have K2 := Lib.hid (K1.out.trans k2); clear q2 k2)
    | fail)
  go_end0
  exact ⟨rfl, Q2.out, K2.out⟩
set_option maxHeartbeats 2000000 in
set_option maxRecDepth 100000 in
theorem per_give (HS : Hid (QuV w0 w B m L s)) (HG : Hid (GoodV s)) (t : Int) (he : errV s ⟨4, t⟩ = 0) :
    Calls Try.prog 16 #[.pointer (some ⟨B, 0, none⟩), .agg #[.int .i64 4, .int .i64 t]] w (StepV w0 w B m (L + 1) (doV s ⟨4, t⟩)) := by
  have h4 := errV_4 he
  have BX := below_alloc w (.cells #[.int .i64 4, .int .i64 t] 35)
  have Q1 := HS.out.step BX
  obtain ⟨P, ov, gv, M1⟩ := Q1
  obtain ⟨t0, t1⟩ := pair_at (heap_alloc_new w (.cells #[.int .i64 4, .int .i64 t] 35))
  obtain ⟨th, hth⟩ : ∃ th, s.things = th := ⟨_, rfl⟩
  rw [hth] at M1 h4
  have c2 := M1.cells.2.2.1
  have hBl := M1.lt
  have fz := M1.froz
  obtain ⟨z, hz⟩ : ∃ z : Int, ((th + 1 : Nat) : Int) = z := ⟨_, rfl⟩
  have hw2 : IntKind.i64.wrap ((th : Int) + 1) = z := by rw [IntKind.wrap_i64]; omega
  have m2 := M1.putN (th + 1)
  rw [hz] at m2
  have M2 := Lib.hid m2
  have K2 := Lib.hid ((keep_below BX).trans (M1.keepB 2 (.int .i64 z)))
  have HN : Hid (NodW s.line) := Lib.hid HG.out.nod
  rw [doV_4, hth]
  clear BX he M1 HS hz m2
  go_enter Try.func16, Try.ntmps16
  go_wp2_with (first
    | (go_at_call 23; (with_reducible refine (wakeFirst_W M2 HN).mono ?_); rintro e w8 ⟨rfl, m8, k8⟩; have M8 := Lib.hid m8; have K8 := Lib.hid (K2.out.trans k8); clear m8 k8)
    | fail)
  go_end0
  exact ⟨rfl, (quV_names (wake_names _) M8.out).more (Nat.le_succ L), K8.out⟩
set_option maxHeartbeats 2000000 in
set_option maxRecDepth 100000 in
theorem per_all (HS : Hid (QuV w0 w B m L s)) (HG : Hid (GoodV s)) (t : Int) :
    Calls Try.prog 16 #[.pointer (some ⟨B, 0, none⟩), .agg #[.int .i64 5, .int .i64 t]] w (StepV w0 w B m (L + 1) (doV s ⟨5, t⟩)) := by
  have hlen := line_len HG.out
  have BX := below_alloc w (.cells #[.int .i64 5, .int .i64 t] 35)
  have Q1 := HS.out.step BX
  obtain ⟨P, ov, gv, M1⟩ := Q1
  obtain ⟨t0, t1⟩ := pair_at (heap_alloc_new w (.cells #[.int .i64 5, .int .i64 t] 35))
  obtain ⟨ad, cap, hov, hA⟩ := M1.rows
  obtain ⟨n, hn⟩ : ∃ n, s.line.length = n := ⟨_, rfl⟩
  rw [ptrs_len, hn] at hov
  subst hov
  have c0 := M1.cells.1
  have hBl := M1.lt
  have HN : Hid (NodW s.line) := Lib.hid HG.out.nod
  have HL := Lib.hid hn
  have hn64 : n ≤ 64 := by omega
  have K1 := Lib.hid (keep_below BX)
  have M0 : Hid (MemV w0 (w.alloc (.cells #[.int .i64 5, .int .i64 t] 35)) B m L P (fnV P s.line) s.line.length (ptrsV P s.line) (allK s.line 0) s.got s.things (.slice ad n cap) gv) := Lib.hid (by rw [allK_0]; exact M1)
  rw [doV_5]
  clear BX M1 HS hA hn hlen
  go_enter Try.func16, Try.ntmps16
  go_wp2_with fail
  go_loopw [63] (fun i wr => ∃ k : Nat, k ≤ n ∧ i = .int .i64 k ∧ Hid (MemV w0 wr B m L P (fnV P s.line) s.line.length (ptrsV P s.line) (allK s.line k) s.got s.things (.slice ad n cap) gv) ∧ Hid (KeepV w wr)) (fun i _ => n - (intOf i).toNat)
  case atStart => exact ⟨0, Nat.zero_le _, rfl, M0, K1⟩
  case round =>
    clear M0 K1 c0 hBl t0 t1
    obtain ⟨k, hk, rfl, HM, HK⟩ := hrel
    by_cases hlt : k < n
    · obtain ⟨q, hq⟩ : ∃ q, s.line[k]? = some q := ⟨s.line[k]'(by rw [HL.out]; exact hlt), List.getElem?_eq_getElem _⟩
      have hmem := allK_at hq
      obtain ⟨ad', cap', hov', hA⟩ := HM.out.rows
      simp only [Value.slice.injEq] at hov'
      obtain ⟨rfl, hnq, rfl⟩ := hov'
      clear hnq
      obtain ⟨b, off, rfl, _, d0⟩ := at_ptr hA (show (ptrsV P s.line)[k]? = some (P q.1) by simp [ptrsV, hq])
      have hth := (HM.out.thr q hmem).1
      unfold ThrW at hth
      have HNX := Lib.hid (allK_next HN.out hq)
      obtain ⟨t2, x⟩ := q
      simp only at d0 hth
      obtain ⟨p, hp⟩ : ∃ p, P t2 = p := ⟨_, rfl⟩
      rw [hp] at d0 hth
      have HP := Lib.hid hp
      have HMM := Lib.hid hmem
      have HT := Lib.hid hth
      clear hq hmem hp hth hA
      go_wp2_with (first
        | (go_at_call 24; (with_reducible refine (wake_W _ HT).mono ?_); rintro e w2 ⟨rfl, hg, hh⟩; have G2 := Lib.hid hg; have T2 := Lib.hid hh; clear hg hh)
        | fail)
      go_roundw
      case rel => exact ⟨k + 1, by omega, by go_num, Lib.hid (by rw [← HNX.out]; exact HM.out.setY HMM.out (by rw [HP.out]; exact G2.out) (by rw [HP.out]; exact T2.out)), Lib.hid (HK.out.trans (keep_thr HT.out G2.out))⟩
      case measure => simp [intOf]; omega
    · obtain rfl : k = n := by omega
      have he := allK_end (l := s.line) (k := k) (by rw [HL.out]; exact Nat.le_refl _)
      rw [he] at HM
      clear hlt hk he
      go_wp2_with fail
      go_end0
      exact ⟨rfl, (quV_names (all_names _) HM.out).more (Nat.le_succ L), HK.out⟩
set_option maxHeartbeats 2000000 in
set_option maxRecDepth 100000 in
theorem per_sleep (HS : Hid (QuV w0 w B m L s)) (HG : Hid (GoodV s)) (t : Int) (he : errV s ⟨3, t⟩ = 0) :
    Calls Try.prog 16 #[.pointer (some ⟨B, 0, none⟩), .agg #[.int .i64 3, .int .i64 t]] w (StepV w0 w B m (L + 1) (doV s ⟨3, t⟩)) := by
  have ht := (errV_rng he).2
  have hns := errV_self he (Or.inr (Or.inr rfl))
  simp only at ht hns
  have hwf := wfI_of ht
  have hnn : ¬ stV s.line t = none := fun h => by
    unfold errV at he
    simp only at he
    rw [if_neg (by omega), if_neg (by omega), if_neg (fun h => hns h.2), if_neg (by omega), if_neg (by omega), if_pos trivial, if_pos h] at he
    cases he
  obtain ⟨y, hst⟩ : ∃ y, stV s.line t = some y := by
    cases h : stV s.line t with
    | none => exact absurd h hnn
    | some y => exact ⟨y, rfl⟩
  have hmem := (stV_some HG.out.nod).1 hst
  have hy1 : ¬ y = 1 := fun e => hns (by rw [hst, e])
  have hy2 := (HG.out.rng _ hmem).2
  simp only at hy2
  have BX := below_alloc w (.cells #[.int .i64 3, .int .i64 t] 35)
  have Q1 := HS.out.step BX
  obtain ⟨P, ov, gv, hM⟩ := Q1
  obtain ⟨t0, t1⟩ := pair_at (heap_alloc_new w (.cells #[.int .i64 3, .int .i64 t] 35))
  have hBl := hM.lt
  obtain ⟨_, cm, c2, _⟩ := hM.cells
  obtain ⟨D, O1, TD⟩ := hM.mp
  have hf : fnV P s.line t = some (P t) := by unfold fnV; rw [if_neg hnn]
  obtain ⟨p, hp⟩ : ∃ p, P t = p := ⟨_, rfl⟩
  have hl : ∀ q : Nat, (Instr.lookup 37 (.map (some m)) (.int .i64 t) false).run Try.prog ((w.alloc (.cells #[.int .i64 3, .int .i64 t] 35)).drewN q) = .ok (.pointer (some ⟨p, 0, none⟩)) ((w.alloc (.cells #[.int .i64 3, .int .i64 t] 35)).drewN q) := fun q => by
    have h := look_one (w := (w.alloc (.cells #[.int .i64 3, .int .i64 t] 35)).drewN q) (own_sameM O1 rfl) TD hwf
    rw [hf, hp] at h
    exact h
  obtain ⟨_, e1, e2, hpl, fz⟩ := hM.thrAt hmem
  have hth := (hM.thr _ hmem).1
  unfold ThrW at hth
  simp only at e1 e2 hpl fz hth
  rw [hp] at e1 e2 hpl fz hth
  have HK := Lib.hid (keep_below BX)
  have HM := Lib.hid hM
  have HT := Lib.hid hth
  have HP := Lib.hid hp
  have HMM := Lib.hid hmem
  obtain ⟨th, hth2⟩ : ∃ th, s.things = th := ⟨_, rfl⟩
  rw [hth2] at c2
  have HTH := Lib.hid hth2
  rw [doV_3, hst]
  have fin : Hid (∀ (q : Nat) (z : Nat) (b : Bool), (z == 2) = (y == 2) → b = (z == 1) → QuV w0 (((w.alloc (.cells #[.int .i64 3, .int .i64 t] 35)).drewN q).setCell ⟨p, 2, none⟩ (.bool b)) B m L ⟨putV s.line t z, s.got, th⟩ ∧ KeepV w (((w.alloc (.cells #[.int .i64 3, .int .i64 t] 35)).drewN q).setCell ⟨p, 2, none⟩ (.bool b))) := Lib.hid fun q z b hz hb => by
    have bd := below_drewN (Below.refl (w.alloc (.cells #[.int .i64 3, .int .i64 t] 35)).heap.size (w.alloc (.cells #[.int .i64 3, .int .i64 t] 35))) q
    have T2 := heap_step HT.out bd
    have h1 := heap_setCell_same _ p 2 _ _ (.bool b) T2
    have M2 := (HM.out.step bd).setY (t := t) (y := z) HMM.out (by rw [HP.out]; exact set_one _ p 2 (.bool b)) (by rw [HP.out, hz, ← hb]; exact h1)
    rw [HTH.out] at M2
    exact ⟨quV_names (put_names _ _ _) M2, (HK.out.trans (keep_below bd)).trans (keep_thr T2 (set_one _ p 2 (.bool b)))⟩
  have hself : putV s.line t y = s.line := put_self HG.out.nod hmem
  have HSF := Lib.hid hself
  rw [hth2]
  clear hM hf O1 TD hth hp BX HS he hns hnn hst D hth2 HK HM HT HMM HTH hself hmem
  by_cases hy0 : y = 2
  · subst hy0
    rw [if_neg (by simp)]
    have e1' : (w.alloc (.cells #[.int .i64 3, .int .i64 t] 35)).cell? ⟨p, 1, none⟩ = some (.bool true) := e1
    clear e1 hy1 hy2
    go_enter Try.func16, Try.ntmps16
    go_wp2_with fail
    go_quiet (fail)
    go_wp2_with fail
    go_end0
    obtain ⟨q2, k2⟩ := fin.out _ 2 false rfl rfl
    rw [HSF.out] at q2
    exact ⟨rfl, q2.more (Nat.le_succ L), k2⟩
  · obtain rfl : y = 0 := by omega
    have e1' : (w.alloc (.cells #[.int .i64 3, .int .i64 t] 35)).cell? ⟨p, 1, none⟩ = some (.bool false) := e1
    clear e1 hy1 hy2 hy0
    by_cases h0 : th = 0
    · subst h0
      rw [if_pos ⟨rfl, rfl⟩]
      go_enter Try.func16, Try.ntmps16
      go_wp2_with fail
      go_quiet (fail)
      go_wp2_with fail
      go_end0
      obtain ⟨q2, k2⟩ := fin.out _ 1 true rfl rfl
      exact ⟨rfl, q2.more (Nat.le_succ L), k2⟩
    · rw [if_neg (fun h => h0 h.2)]
      have h1 : ¬ (th : Int) = 0 := by omega
      have h2 : ((th : Int) == 0) = false := by simpa using h0
      go_enter Try.func16, Try.ntmps16
      go_wp2_with fail
      go_quiet (fail)
      go_wp2_with fail
      go_end0
      obtain ⟨q2, k2⟩ := fin.out _ 0 false rfl rfl
      rw [HSF.out] at q2
      exact ⟨rfl, q2.more (Nat.le_succ L), k2⟩
theorem perform_W (HS : Hid (QuV w0 w B m L s)) (HG : Hid (GoodV s)) (k t : Int) (he : errV s ⟨k, t⟩ = 0) (hL : L < maxLen) (hgl : s.got.length ≤ 10000000000000) :
    Calls Try.prog 16 #[.pointer (some ⟨B, 0, none⟩), .agg #[.int .i64 k, .int .i64 t]] w (StepV w0 w B m (L + 1) (doV s ⟨k, t⟩)) := by
  rcases errV_kinds he with e | e | e | e | e <;> simp only at e <;> subst e
  · exact per_prepare HS HG t he hL
  · exact per_look HS HG t he hgl
  · exact per_sleep HS HG t he
  · exact per_give HS HG t he
  · exact per_all HS HG t
end
end Go.Proofs.Ytghonbiiichedaa
