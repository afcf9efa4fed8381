/- Package runq: the walk of perform, the other kinds. -/
import Derived.Test.YtgnpodeneknpdaaRqF
namespace Go.Proofs.Ytgnpodeneknpdaa
open Go.RowKit Go.Maps

set_option maxHeartbeats 1000000 in
set_option maxRecDepth 100000 in
theorem per_head {w0 w : World} {B m L : Nat} {s : StU} (H : Hid (QuS w0 w B m L s)) (i : Int) (l : Nat) (he : errU s ⟨2, i, (l : Int)⟩ = 0) (hwf : WfI i) (hL : L < maxLen) :
    Calls Try.prog 26 #[.pointer (some ⟨B, 0, none⟩), .agg #[.int .i64 2, .int .i64 i, .int .i64 (l : Int)]] w (StepQ w0 w B m (L + 1) (doU s ⟨2, i, (l : Int)⟩)) := by
  obtain ⟨g, R, tv, HM, HT⟩ := H.out
  have hr := errU_in he (Or.inr rfl)
  simp only at hr
  have hl : l < 32 := by omega
  have hgood := good_stepU HT.good ⟨2, i, (l : Int)⟩
  rw [err_step he] at hgood
  have hdo := do_2 s i (l : Int)
  have hlen : (doU s ⟨2, i, (l : Int)⟩).list.length = s.list.length + 1 := by rw [hdo]; exact len_putU
  have htk : (doU s ⟨2, i, (l : Int)⟩).taken = s.taken := by rw [hdo]
  have ho : ∀ j : Nat, ¬ j = l → lvlU (doU s ⟨2, i, (l : Int)⟩).list (j : Int) = lvlU s.list (j : Int) := fun j hj => by
    rw [hdo]; exact lvl_put_other (by simp only; omega)
  have hs : lvlU (doU s ⟨2, i, (l : Int)⟩).list (l : Int) = ([] : List Nat).map g.id ++ i :: (g.L l).map g.id := by
    rw [hdo, HT.ids l hl]; exact lvl_head HT.good.srt
  have B0 := below_alloc w (.cells #[.int .i64 2, .int .i64 i, .int .i64 (l : Int)] 34)
  have W1 := HM.step B0
  have T1 := trio_at (heap_alloc_new w (.cells #[.int .i64 2, .int .i64 i, .int .i64 (l : Int)] 34))
  have ce := W1.cell (W1.re l hl)
  have hBl := W1.lt
  have hx : lastN (g.e l) [] = g.e l := rfl
  obtain ⟨x, hy⟩ : ∃ x, g.e l = x := ⟨_, rfl⟩
  rw [hy] at ce hx
  have hk0 : (0 : Int) ≤ (l : Int) := by omega
  have hk1 : (l : Int) < 32 := by omega
  have BD : Below w.heap.size w (w.alloc (.cells #[.int .i64 2, .int .i64 i, .int .i64 (l : Int)] 34)).drew := B0.drew
  have MD := Lib.hid (HM.step BD)
  have KD := Lib.hid (keep_below BD)
  have TD := Lib.hid HT
  have HG := Lib.hid hgood
  have HO := Lib.hid ho
  have HS := Lib.hid hs
  have HX : Hid (lastN (g.e l) [] = x) := Lib.hid (by rw [hy]; exact hx)
  have HH := Lib.hid hr.2
  have HLL : Hid (g.L l = [] ++ g.L l) := Lib.hid rfl
  have HLEN := Lib.hid hlen
  have HTK := Lib.hid htk
  clear hgood ho hs hx hr hdo hlen htk hy HT W1 B0 BD he H
  go_enter Try.func26, Try.ntmps26
  go_wp2_with fail
  go_region_with (first
    | (go_at_call 41; (with_reducible refine (insert_W MD TD i hwf hL hl HLL HH HG HO HS HX).mono ?_); rintro e w4 ⟨rfl, h4, k4⟩; have H4 := Lib.hid h4; have K4 := Lib.hid k4; clear h4 k4)
    | fail)
  all_goals go_wp2_with fail
  all_goals go_end0
  all_goals (
    obtain ⟨g', m4, t4⟩ := H4.out
    exact ⟨rfl, ⟨g', R, tv, by rw [HTK.out, HLEN.out]; exact m4, t4⟩, KD.out.trans K4.out⟩)
set_option maxHeartbeats 1000000 in
set_option maxRecDepth 100000 in
theorem per_drop {w0 w : World} {B m L : Nat} {s : StU} (H : Hid (QuS w0 w B m L s)) (i l : Int) (he : errU s ⟨4, i, l⟩ = 0) :
    Calls Try.prog 26 #[.pointer (some ⟨B, 0, none⟩), .agg #[.int .i64 4, .int .i64 i, .int .i64 l]] w (StepQ w0 w B m L (doU s ⟨4, i, l⟩)) := by
  obtain ⟨g, R, tv, HM, HT⟩ := H.out
  have hh := errU_drop he rfl
  have hdo := do_4 s i l
  have hlen := len_dropU HT.good.nod (heldU_mem.1 hh)
  obtain ⟨c, hc⟩ : ∃ c, (s.list.filter fun q => decide (¬ q.1 = i)).length = c := ⟨_, rfl⟩
  rw [hc] at hlen
  rw [← hlen] at HM
  have B0 := below_alloc w (.cells #[.int .i64 4, .int .i64 i, .int .i64 l] 34)
  have T1 := trio_at (heap_alloc_new w (.cells #[.int .i64 4, .int .i64 i, .int .i64 l] 34))
  have MD := Lib.hid (HM.step B0)
  have KD := Lib.hid (keep_below B0)
  have TD := Lib.hid HT
  have HI := Lib.hid hh
  have HS : Hid ((doU s ⟨4, i, l⟩).list = s.list.filter fun q => decide (¬ q.1 = i)) := Lib.hid (by rw [hdo])
  have HK : Hid ((doU s ⟨4, i, l⟩).taken = s.taken) := Lib.hid (by rw [hdo])
  have HC := Lib.hid hc
  clear hh hdo hlen hc B0 HT he H
  go_enter Try.func26, Try.ntmps26
  go_wp2_with (first
    | (go_at_call 43; (with_reducible refine (remove_W MD TD i HI HS).mono ?_); rintro e w4 ⟨rfl, h4, k4⟩; have H4 := Lib.hid h4; have K4 := Lib.hid k4; clear h4 k4)
    | fail)
  go_end0
  obtain ⟨g', m4, t4⟩ := H4.out
  exact ⟨rfl, ⟨g', R, tv, by rw [HK.out, HS.out, HC.out]; exact m4, t4⟩, KD.out.trans K4.out⟩
set_option maxHeartbeats 1000000 in
set_option maxRecDepth 100000 in
theorem per_take {w0 w : World} {B m L : Nat} {s : StU} (H : Hid (QuS w0 w B m L s)) (i l : Int) (he : errU s ⟨3, i, l⟩ = 0) (hn : s.taken.length ≤ 10000000000000) :
    Calls Try.prog 26 #[.pointer (some ⟨B, 0, none⟩), .agg #[.int .i64 3, .int .i64 i, .int .i64 l]] w (StepQ w0 w B m L (doU s ⟨3, i, l⟩)) := by
  obtain ⟨i0, hi, hz0, hz1, hz2⟩ := info_parts info_int
  obtain ⟨g, R, tv, HM, HT⟩ := H.out
  have hne := errU_take he rfl
  have hdo := do_3 s i l
  obtain ⟨tk, htk⟩ : ∃ tk, s.taken = tk := ⟨_, rfl⟩
  obtain ⟨n, hnn⟩ : ∃ n, tk.length = n := ⟨_, rfl⟩
  rw [htk] at HM hn
  rw [hnn] at hn
  have B0 := below_alloc w (.cells #[.int .i64 3, .int .i64 i, .int .i64 l] 34)
  have T1 := trio_at (heap_alloc_new w (.cells #[.int .i64 3, .int .i64 i, .int .i64 l] 34))
  have MD := Lib.hid (HM.step B0)
  have KD := Lib.hid (keep_below B0)
  have TD := Lib.hid HT
  have HNE := Lib.hid hne
  have HDO := Lib.hid hdo
  have HN := Lib.hid hnn
  have HTK := Lib.hid htk
  obtain ⟨cnt, hcnt⟩ : ∃ cnt, s.list.length = cnt := ⟨_, rfl⟩
  rw [hcnt] at MD
  have HCNT := Lib.hid hcnt
  clear hne hdo hnn htk hcnt B0 HM HT he H
  go_enter Try.func26, Try.ntmps26
  go_upto_region 8 with (first
    | (go_at_call 42; (with_reducible refine (first_W MD TD HNE).mono ?_); rintro e w1 ⟨⟨id, t, hlt, rfl⟩, hb⟩; have HLT := Lib.hid hlt; have M1 := Lib.hid (MD.out.step hb); have K1 := Lib.hid (KD.out.trans (keep_below hb)); clear hlt hb)
    | fail)
  have hh : heldU s id = true := heldU_mem.2 (by rw [HLT.out]; exact List.mem_cons_self)
  have htf := take_filter TD.out.good HLT.out
  have hlen := len_dropU TD.out.good.nod (heldU_mem.1 hh)
  obtain ⟨c, hc⟩ : ∃ c, (s.list.filter fun q => decide (¬ q.1 = id)).length = c := ⟨_, rfl⟩
  rw [hc, HCNT.out] at hlen
  subst hlen
  have BA := below_alloc w1 (.cells #[.int .i64 id] 3)
  have MA := Lib.hid (M1.out.step BA)
  have KA := Lib.hid (K1.out.trans (keep_below BA))
  have LA : Hid (shI.At (w1.alloc (.cells #[.int .i64 id] 3)) (some ⟨w1.heap.size, 0, none⟩) 1 [id]) := Lib.hid (int_lit w1 id 1)
  have hbs : w0.heap.size ≤ (w1.alloc (.cells #[.int .i64 id] 3)).heap.size := MA.out.b.size
  have ct := M1.out.cell M1.out.rt
  have hBl := M1.out.lt
  have hown := MA.out.tk
  rw [HN.out] at hown
  have HO := Lib.hid hown
  obtain ⟨ad, cap, rfl, hnc, hcm, hz, ha⟩ := own_shape hown
  have HI := Lib.hid hh
  have HC := Lib.hid hc
  have HS : Hid ((doU s ⟨3, i, l⟩).list = s.list.filter fun q => decide (¬ q.1 = id)) := Lib.hid (by rw [HDO.out]; exact htf.1)
  have HK : Hid ((doU s ⟨3, i, l⟩).taken = tk ++ [id]) := Lib.hid (by rw [HDO.out, ← HTK.out]; exact htf.2)
  have HTL : Hid ((tk ++ [id]).length = n + 1) := Lib.hid (by rw [List.length_append, HN.out]; rfl)
  clear hh htf hc BA hown hz ha
  go_upto_region 9 with (first
    | (at_builtin; refine wpList_append_n shI rfl _ _ 24 rfl w0.heap.size 3 i0 _ 8 Try.underlying24 hi hz0 hz1 hz2 rfl (.slice ad n cap) n tk [id] HN rfl HO.out (some ⟨w1.heap.size, 0, none⟩) 1 1 rfl (Lib.hid rfl) LA.out (by unfold maxLen; omega) (by omega) hbs ?_; intro ra4 rc4 w4 own4 grow4 _; have G4 := Lib.hid (MA.out.putT (taken' := tk ++ [id]) grow4 (by rw [HTL.out]; exact own4)); have h4 := G4.out.1; have cB := cell_of_row w4 B 33 _ _ _ h4; rw [MA.out.rt] at cB; have fB := fun j => frozen_of_row w4 B j _ _ h4; have hB4 := heap_lt h4; have K4 := Lib.hid (KA.out.trans (keep_int MA.out.tk grow4)); clear own4 grow4)
    | fail)
  have M5 := Lib.hid G4.out.2
  have K5 := Lib.hid (K4.out.trans (keep_set (i := 33) (u := .slice ra4 (n + 1) rc4) h4 (Or.inr rfl)))
  clear h4 cB fB hB4 G4 K4
  go_wp2_with (first
    | (go_at_call 43; (with_reducible refine (remove_W M5 TD id HI HS).mono ?_); rintro e w6 ⟨rfl, h6, k6⟩; have H6 := Lib.hid h6; have K6 := Lib.hid k6; clear h6 k6)
    | fail)
  go_end0
  obtain ⟨g', m6, t6⟩ := H6.out
  exact ⟨rfl, ⟨g', _, _, by rw [HK.out, HS.out, HC.out]; exact m6, t6⟩, K5.out.trans K6.out⟩
theorem QuS.more {w0 w : World} {B m L L' : Nat} {s : StU} (h : QuS w0 w B m L s) (hL : L ≤ L') : QuS w0 w B m L' s := by
  obtain ⟨g, R, tv, h1, h2⟩ := h
  exact ⟨g, R, tv, h1.more hL, h2⟩
theorem perform_W {w0 w : World} {B m L : Nat} {s : StU} (H : Hid (QuS w0 w B m L s)) (k i l : Int) (he : errU s ⟨k, i, l⟩ = 0) (hwf : WfI i) (hL : L < maxLen) (hn : s.taken.length ≤ 10000000000000) :
    Calls Try.prog 26 #[.pointer (some ⟨B, 0, none⟩), .agg #[.int .i64 k, .int .i64 i, .int .i64 l]] w (StepQ w0 w B m (L + 1) (doU s ⟨k, i, l⟩)) := by
  rcases errU_kinds he with e | e | e | e <;> simp only at e <;> subst e
  · have hr := (errU_in he (Or.inl rfl)).1
    simp only at hr
    obtain ⟨l', rfl⟩ : ∃ l' : Nat, l = (l' : Int) := ⟨l.toNat, by omega⟩
    exact per_add H i l' he hwf hL
  · have hr := (errU_in he (Or.inr rfl)).1
    simp only at hr
    obtain ⟨l', rfl⟩ : ∃ l' : Nat, l = (l' : Int) := ⟨l.toNat, by omega⟩
    exact per_head H i l' he hwf hL
  · exact (per_take H i l he hn).mono fun e w' h => ⟨h.1, h.2.1.more (by omega), h.2.2⟩
  · exact (per_drop H i l he).mono fun e w' h => ⟨h.1, h.2.1.more (by omega), h.2.2⟩
end Go.Proofs.Ytgnpodeneknpdaa
