/- corebellref.QKey. -/
import Derived.Test.YtomgifdnnfbpnaaDoorTyJ
namespace Go.Proofs.YtomgifdnnfbpnaaDoor
open Go.RowKit

/-- The lines' heads copied, nothing else yet. -/
structure Kq (w W : World) (hs : List Hd) (lv : Value) (n : Nat) : Prop where
  b : Below w.heap.size w W
  z : W.heap[w.heap.size + 1]? = some (.cells #[.slice none 0 0, .slice none 0 0] tT (0, 0))
  q : Que shL W w.heap.size tL lv n hs
theorem Kq.step {w W W' : World} {hs : List Hd} {lv : Value} {n : Nat} (h : Kq w W hs lv n) (hb : Below W.heap.size W W') : Kq w W' hs lv n := ⟨pstep h.b hb, heap_step h.z hb, que_step h.q hb⟩
/-- A key's answer; the row of lines is new. -/
def KeyFr (w : World) (n m : Nat) (s : StQ) (x : Int) (e : Ending) (w' : World) : Prop :=
  ∃ la lc ea ec, e = .returned (.tuple #[.agg #[.slice la n lc, .slice ea m ec], .int .i64 x]) ∧ LnsAt w' la lc s.lines ∧ shB.At w' ea ec s.edit ∧ Below w.heap.size w w' ∧ ∀ a, la = some a → w.heap.size ≤ a.block
theorem KeyFr.out {w w' : World} {n m : Nat} {s : StQ} {x : Int} {e : Ending} (h : KeyFr w n m s x e w') : KeyOut w n m s x e w' := by
  obtain ⟨la, lc, ea, ec, h1, h2, h3, h4, _⟩ := h
  exact ⟨la, lc, ea, ec, h1, h2, h3, h4⟩
theorem keyf_none {w w' : World} {x : Int} {e : Ending} (he : e = .returned (.tuple #[.agg #[.slice none 0 0, .slice none 0 0], .int .i64 x])) (hb : Below w.heap.size w w') : KeyFr w 0 0 newQ x e w' := ⟨none, 0, none, 0, he, LnsAt.nil _, Shape.At.nil _, hb, fun a h => by cases h⟩
/-- The answer stored. -/
theorem kq_end {w W : World} {hs : List Hd} {xa : Option Addr} {N xc M g c : Nat} {s : StQ} (h : Kq w W hs (.slice xa N xc) N) (hi : Lin W hs s.lines) (he : shB.At W (some ⟨g, 0, none⟩) c s.edit) (hm : s.edit.length = M) :
    KeyFr w N M s 0 (.returned (.tuple #[.agg #[.slice xa N xc, .slice (some ⟨g, 0, none⟩) M c], .int .i64 0])) ((W.setCell ⟨w.heap.size + 1, 0, none⟩ (.slice xa N xc)).setCell ⟨w.heap.size + 1, 1, none⟩ (.slice (some ⟨g, 0, none⟩) M c)) := by
  have hA := lin_ne hi h.z (fun k e => by cases e) (fun k e => by cases e)
  have hE : Lin W [((some ⟨g, 0, none⟩, M, c) : Hd)] [s.edit] := Lin.one ⟨hm.symm, he⟩
  have hA2 := lin_ne hE h.z (fun k e => by cases e) (fun k e => by cases e)
  have q1 := que_set (a := ⟨w.heap.size + 1, 0, none⟩) h.q (que_ne h.q h.z (by decide)) (.slice xa N xc)
  have z1 := two_set0 (x' := .slice xa N xc) h.z
  have q2 := que_set (a := ⟨w.heap.size + 1, 1, none⟩) q1 (que_ne q1 z1 (by decide)) (.slice (some ⟨g, 0, none⟩) M c)
  exact ⟨_, _, _, _, rfl, ⟨hs, que_at q2, lin_set (lin_set hi hA _ _) hA _ _⟩, ((lin_set (lin_set hE hA2 _ _) hA2 _ _).a 0 _ _ rfl rfl).a, two_below _ _ h.b (by omega), fun a ha => by
    obtain ⟨_, _, hv, _, _, _, hf⟩ := que_shape h.q
    simp only [Value.slice.injEq, true_and] at hv
    obtain ⟨rfl, _⟩ := hv
    obtain ⟨g', off, rfl, hb, _⟩ := hf a ha
    exact hb⟩
theorem wrap_small {k : Nat} (h : k ≤ 65) : wrap64 (k : Int) = (k : Int) := by simp only [wrap64]; omega
/-- One head more. -/
theorem Kq.put {w W W' : World} {hs : List Hd} {xa ya : Option Addr} {n xc yc : Nat} {hd : Hd} (h : Kq w W hs (.slice xa n xc) n) (hq : Que shL W' w.heap.size tL (.slice ya (n + 1) yc) (n + 1) (hs ++ [hd])) (hg : W.grownBy W' (Value.slice xa n xc).ownBlock) : Kq w W' (hs ++ [hd]) (.slice ya (n + 1) yc) (n + 1) :=
  ⟨h.b.grown hg h.b.size (fun k hk => (que_lt h.q hk).1), (hg.block _ (heap_lt h.z) (fun e => que_apart h.q _ _ _ h.z (by decide) e.symm)).trans h.z, hq⟩
set_option maxHeartbeats 2000000 in
set_option maxRecDepth 100000 in
theorem qkey_form {la ea : Option Addr} {n lc m ec : Nat} {lines : List (List UInt8)} (w : World) (HL : Hid (LnsAt w la lc lines)) (hn : Hid (lines.length = n)) (hn63 : n ≤ 9223372036854775807) (hr : Hid (rgtQ lines n m = false)) (b : UInt8) :
    Calls Tryd.prog 10 #[.agg #[.slice la n lc, .slice ea m ec], .int .u8 (ub b)] w (KeyFr w 0 0 newQ 1) := by
  have hx := Lib.hid (bx_new w (.slice la n lc) (.slice ea m ec))
  go_enter Tryd.func10, Tryd.ntmps10
  go_upto_region 1 with fail
  generalize (w.alloc (.cells #[.slice la n lc, .slice ea m ec] 25)).alloc (.cells #[.slice none 0 0, .slice none 0 0] 25) = X at hx ⊢
  have G0 := pair_at hx.out.d
  have l0 := heap_lt hx.out.d
  have HLX := Lib.hid (HL.out.step hx.out.b)
  go_wp2_with (first
    | (go_at_call 14; (with_reducible refine (qright_W _ HLX hn hn63 false hr).mono ?_); rintro e w1 ⟨rfl, hb⟩; have X1 := Lib.hid (hx.out.step hb); have Z1 := pair_at X1.out.z; have F1 := (fun i => frozen_of_row w1 (w.heap.size + 1) i _ _ X1.out.z); have z1 := heap_lt X1.out.z; clear hb)
    | fail)
  refine bodyPost_ret (results_row_tmp1 rfl _ _ (w.heap.size + 1) 25 #[.slice none 0 0, .slice none 0 0] (0, 0) _ rfl (two_set X1.out.z) Tryd.underlying25 rfl size_tty) rfl ?_
  exact keyf_none rfl (two_below _ _ X1.out.b (by omega))
set_option maxHeartbeats 2000000 in
set_option maxRecDepth 100000 in
theorem qkey_full10 {la ea : Option Addr} {n lc m ec : Nat} {lines : List (List UInt8)} {edit : List UInt8} (w : World) (HL : Hid (LnsAt w la lc lines)) (hn : Hid (lines.length = n)) (HE : Hid (shB.At w ea ec edit)) (hm : Hid (edit.length = m)) (hn4 : n ≤ 400) (hr : Hid (rgtQ lines n m = true)) (h : Hid (n = 400)) :
    Calls Tryd.prog 10 #[.agg #[.slice la n lc, .slice ea m ec], .int .u8 10] w (KeyFr w 0 0 newQ 4) := by
  obtain ⟨i0, hi, hz0, hz1, hz2⟩ := info_parts' info_bytes
  have hx := Lib.hid (bx_new w (.slice la n lc) (.slice ea m ec))
  obtain ⟨hs, ha, hl⟩ := HL.out
  have HA := Lib.hid ha
  have HI := Lib.hid hl
  have HLN : Hid (hs.length = n) := Lib.hid (by rw [hl.n]; exact hn.out)
  clear ha hl
  go_enter Tryd.func10, Tryd.ntmps10
  go_upto_region 1 with fail
  generalize (w.alloc (.cells #[.slice la n lc, .slice ea m ec] 25)).alloc (.cells #[.slice none 0 0, .slice none 0 0] 25) = X at hx ⊢
  have G0 := pair_at hx.out.d
  have l0 := heap_lt hx.out.d
  have HLX := Lib.hid (HL.out.step hx.out.b)
  go_upto_region 5 with (first
    | (go_at_call 14; (with_reducible refine (qright_W _ HLX hn (by omega) true hr).mono ?_); rintro e w1 ⟨rfl, hb⟩; have X1 := Lib.hid (hx.out.step hb); have G1 := pair_at X1.out.d; have l1 := heap_lt X1.out.d; have c1 := conv_at (HE.out.step X1.out.b) hm.out; have HO : Hid (Que shL (w1.alloc (.cells #[] 23)) w.heap.size 23 (.slice (some ⟨w1.heap.size, 0, none⟩) 0 0) 0 []) := Lib.hid (que_base (que_own (World.ownsRow_made w1 #[] 0 (Nat.le_refl _) (by decide) rfl) rfl) X1.out.b.size); have HA2 := Lib.hid (HA.out.step (pstep X1.out.b (below_alloc w1 (.cells #[] 23)))); have X2 := Lib.hid (X1.out.step (below_alloc w1 (.cells #[] 23))); have s2 := X2.out.b.size; clear hb)
    | (at_builtin; refine wpList_append_que shL rfl _ _ 22 rfl w.heap.size 23 i0 _ 24 Tryd.underlying22 hi hz0 hz1 hz2 rfl (.slice (some ⟨w1.heap.size, 0, none⟩) 0 0) 0 [] hs rfl HO.out la n lc rfl HLN HA2.out (by unfold maxLen; omega) (by omega) s2 ?_; intro ra rc w3 own3 grow3 _; have KQ : Hid (Kq w w3 hs (.slice ra n rc) n) := Lib.hid ⟨X2.out.b.grown grow3 s2 (fun k hk => by cases hk; exact X1.out.b.size), (grow3.block _ (heap_lt X2.out.z) (fun e => absurd (Option.some.inj e) (Nat.ne_of_lt (heap_lt X1.out.z)))).trans X2.out.z, by rw [Nat.zero_add] at own3; exact own3⟩; clear own3 grow3)
    | fail)
  clear G0 l0 hx HLX
  try clear G1 l1 c1 HO HA2 X1 X2 s2
  have sl : ∀ l, (strB l).toList = l := strB_list
  obtain rfl := h.out
  have Z4 := pair_at KQ.out.z
  have F4 := fun i => frozen_of_row w3 (w.heap.size + 1) i _ _ KQ.out.z
  have z4 := heap_lt KQ.out.z
  go_wp2_with fail
  refine bodyPost_ret (results_row_tmp1 rfl _ _ (w.heap.size + 1) 25 #[.slice none 0 0, .slice none 0 0] (0, 0) _ rfl (two_set KQ.out.z) Tryd.underlying25 rfl size_tty) rfl ?_
  exact keyf_none rfl (two_below _ _ KQ.out.b (by omega))
set_option maxHeartbeats 2000000 in
set_option maxRecDepth 100000 in
theorem qkey_full4 {la ea : Option Addr} {n lc m ec : Nat} {lines : List (List UInt8)} {edit : List UInt8} (w : World) (HL : Hid (LnsAt w la lc lines)) (hn : Hid (lines.length = n)) (HE : Hid (shB.At w ea ec edit)) (hm : Hid (edit.length = m)) (hn4 : n ≤ 400) (hr : Hid (rgtQ lines n m = true)) (h : Hid (n = 400)) :
    Calls Tryd.prog 10 #[.agg #[.slice la n lc, .slice ea m ec], .int .u8 4] w (KeyFr w 0 0 newQ 4) := by
  obtain ⟨i0, hi, hz0, hz1, hz2⟩ := info_parts' info_bytes
  have hx := Lib.hid (bx_new w (.slice la n lc) (.slice ea m ec))
  obtain ⟨hs, ha, hl⟩ := HL.out
  have HA := Lib.hid ha
  have HI := Lib.hid hl
  have HLN : Hid (hs.length = n) := Lib.hid (by rw [hl.n]; exact hn.out)
  clear ha hl
  go_enter Tryd.func10, Tryd.ntmps10
  go_upto_region 1 with fail
  generalize (w.alloc (.cells #[.slice la n lc, .slice ea m ec] 25)).alloc (.cells #[.slice none 0 0, .slice none 0 0] 25) = X at hx ⊢
  have G0 := pair_at hx.out.d
  have l0 := heap_lt hx.out.d
  have HLX := Lib.hid (HL.out.step hx.out.b)
  go_upto_region 5 with (first
    | (go_at_call 14; (with_reducible refine (qright_W _ HLX hn (by omega) true hr).mono ?_); rintro e w1 ⟨rfl, hb⟩; have X1 := Lib.hid (hx.out.step hb); have G1 := pair_at X1.out.d; have l1 := heap_lt X1.out.d; have c1 := conv_at (HE.out.step X1.out.b) hm.out; have HO : Hid (Que shL (w1.alloc (.cells #[] 23)) w.heap.size 23 (.slice (some ⟨w1.heap.size, 0, none⟩) 0 0) 0 []) := Lib.hid (que_base (que_own (World.ownsRow_made w1 #[] 0 (Nat.le_refl _) (by decide) rfl) rfl) X1.out.b.size); have HA2 := Lib.hid (HA.out.step (pstep X1.out.b (below_alloc w1 (.cells #[] 23)))); have X2 := Lib.hid (X1.out.step (below_alloc w1 (.cells #[] 23))); have s2 := X2.out.b.size; clear hb)
    | (at_builtin; refine wpList_append_que shL rfl _ _ 22 rfl w.heap.size 23 i0 _ 24 Tryd.underlying22 hi hz0 hz1 hz2 rfl (.slice (some ⟨w1.heap.size, 0, none⟩) 0 0) 0 [] hs rfl HO.out la n lc rfl HLN HA2.out (by unfold maxLen; omega) (by omega) s2 ?_; intro ra rc w3 own3 grow3 _; have KQ : Hid (Kq w w3 hs (.slice ra n rc) n) := Lib.hid ⟨X2.out.b.grown grow3 s2 (fun k hk => by cases hk; exact X1.out.b.size), (grow3.block _ (heap_lt X2.out.z) (fun e => absurd (Option.some.inj e) (Nat.ne_of_lt (heap_lt X1.out.z)))).trans X2.out.z, by rw [Nat.zero_add] at own3; exact own3⟩; clear own3 grow3)
    | fail)
  clear G0 l0 hx HLX
  try clear G1 l1 c1 HO HA2 X1 X2 s2
  have sl : ∀ l, (strB l).toList = l := strB_list
  obtain rfl := h.out
  have Z4 := pair_at KQ.out.z
  have F4 := fun i => frozen_of_row w3 (w.heap.size + 1) i _ _ KQ.out.z
  have z4 := heap_lt KQ.out.z
  go_wp2_with fail
  refine bodyPost_ret (results_row_tmp1 rfl _ _ (w.heap.size + 1) 25 #[.slice none 0 0, .slice none 0 0] (0, 0) _ rfl (two_set KQ.out.z) Tryd.underlying25 rfl size_tty) rfl ?_
  exact keyf_none rfl (two_below _ _ KQ.out.b (by omega))
set_option maxHeartbeats 2000000 in
set_option maxRecDepth 100000 in
theorem qkey_fullp {la ea : Option Addr} {n lc m ec : Nat} {lines : List (List UInt8)} {edit : List UInt8} (w : World) (HL : Hid (LnsAt w la lc lines)) (hn : Hid (lines.length = n)) (HE : Hid (shB.At w ea ec edit)) (hm : Hid (edit.length = m)) (hn4 : n ≤ 400) (hm6 : m ≤ 64) (hr : Hid (rgtQ lines n m = true)) (h : Hid (m = 64)) (b : UInt8) (hp : plainQ b) :
    Calls Tryd.prog 10 #[.agg #[.slice la n lc, .slice ea m ec], .int .u8 (ub b)] w (KeyFr w 0 0 newQ 4) := by
  obtain ⟨q1, q2, q3, q4, q5⟩ := plain_ne hp
  have sz : (strB edit).size = m := (strB_size _).trans hm.out
  clear hp
  obtain ⟨i0, hi, hz0, hz1, hz2⟩ := info_parts' info_bytes
  have hx := Lib.hid (bx_new w (.slice la n lc) (.slice ea m ec))
  obtain ⟨hs, ha, hl⟩ := HL.out
  have HA := Lib.hid ha
  have HI := Lib.hid hl
  have HLN : Hid (hs.length = n) := Lib.hid (by rw [hl.n]; exact hn.out)
  clear ha hl
  go_enter Tryd.func10, Tryd.ntmps10
  go_upto_region 1 with fail
  generalize (w.alloc (.cells #[.slice la n lc, .slice ea m ec] 25)).alloc (.cells #[.slice none 0 0, .slice none 0 0] 25) = X at hx ⊢
  have G0 := pair_at hx.out.d
  have l0 := heap_lt hx.out.d
  have HLX := Lib.hid (HL.out.step hx.out.b)
  go_upto_region 5 with (first
    | (go_at_call 14; (with_reducible refine (qright_W _ HLX hn (by omega) true hr).mono ?_); rintro e w1 ⟨rfl, hb⟩; have X1 := Lib.hid (hx.out.step hb); have G1 := pair_at X1.out.d; have l1 := heap_lt X1.out.d; have c1 := conv_at (HE.out.step X1.out.b) hm.out; have HO : Hid (Que shL (w1.alloc (.cells #[] 23)) w.heap.size 23 (.slice (some ⟨w1.heap.size, 0, none⟩) 0 0) 0 []) := Lib.hid (que_base (que_own (World.ownsRow_made w1 #[] 0 (Nat.le_refl _) (by decide) rfl) rfl) X1.out.b.size); have HA2 := Lib.hid (HA.out.step (pstep X1.out.b (below_alloc w1 (.cells #[] 23)))); have X2 := Lib.hid (X1.out.step (below_alloc w1 (.cells #[] 23))); have s2 := X2.out.b.size; clear hb)
    | (at_builtin; refine wpList_append_que shL rfl _ _ 22 rfl w.heap.size 23 i0 _ 24 Tryd.underlying22 hi hz0 hz1 hz2 rfl (.slice (some ⟨w1.heap.size, 0, none⟩) 0 0) 0 [] hs rfl HO.out la n lc rfl HLN HA2.out (by unfold maxLen; omega) (by omega) s2 ?_; intro ra rc w3 own3 grow3 _; have KQ : Hid (Kq w w3 hs (.slice ra n rc) n) := Lib.hid ⟨X2.out.b.grown grow3 s2 (fun k hk => by cases hk; exact X1.out.b.size), (grow3.block _ (heap_lt X2.out.z) (fun e => absurd (Option.some.inj e) (Nat.ne_of_lt (heap_lt X1.out.z)))).trans X2.out.z, by rw [Nat.zero_add] at own3; exact own3⟩; clear own3 grow3)
    | fail)
  clear G0 l0 hx HLX
  try clear G1 l1 c1 HO HA2 X1 X2 s2
  have sl : ∀ l, (strB l).toList = l := strB_list
  obtain rfl := h.out
  have Z4 := pair_at KQ.out.z
  have F4 := fun i => frozen_of_row w3 (w.heap.size + 1) i _ _ KQ.out.z
  have z4 := heap_lt KQ.out.z
  go_wp2_with fail
  refine bodyPost_ret (results_row_tmp1 rfl _ _ (w.heap.size + 1) 25 #[.slice none 0 0, .slice none 0 0] (0, 0) _ rfl (two_set KQ.out.z) Tryd.underlying25 rfl size_tty) rfl ?_
  exact keyf_none rfl (two_below _ _ KQ.out.b (by omega))
set_option maxHeartbeats 2000000 in
set_option maxRecDepth 100000 in
theorem qkey_kill {la ea : Option Addr} {n lc m ec : Nat} {lines : List (List UInt8)} {edit : List UInt8} (w : World) (HL : Hid (LnsAt w la lc lines)) (hn : Hid (lines.length = n)) (HE : Hid (shB.At w ea ec edit)) (hm : Hid (edit.length = m)) (hn4 : n ≤ 400) (hr : Hid (rgtQ lines n m = true)) :
    Calls Tryd.prog 10 #[.agg #[.slice la n lc, .slice ea m ec], .int .u8 21] w (KeyFr w n 0 ⟨lines, []⟩ 0) := by
  obtain ⟨i0, hi, hz0, hz1, hz2⟩ := info_parts' info_bytes
  have hx := Lib.hid (bx_new w (.slice la n lc) (.slice ea m ec))
  obtain ⟨hs, ha, hl⟩ := HL.out
  have HA := Lib.hid ha
  have HI := Lib.hid hl
  have HLN : Hid (hs.length = n) := Lib.hid (by rw [hl.n]; exact hn.out)
  clear ha hl
  go_enter Tryd.func10, Tryd.ntmps10
  go_upto_region 1 with fail
  generalize (w.alloc (.cells #[.slice la n lc, .slice ea m ec] 25)).alloc (.cells #[.slice none 0 0, .slice none 0 0] 25) = X at hx ⊢
  have G0 := pair_at hx.out.d
  have l0 := heap_lt hx.out.d
  have HLX := Lib.hid (HL.out.step hx.out.b)
  go_upto_region 5 with (first
    | (go_at_call 14; (with_reducible refine (qright_W _ HLX hn (by omega) true hr).mono ?_); rintro e w1 ⟨rfl, hb⟩; have X1 := Lib.hid (hx.out.step hb); have G1 := pair_at X1.out.d; have l1 := heap_lt X1.out.d; have c1 := conv_at (HE.out.step X1.out.b) hm.out; have HO : Hid (Que shL (w1.alloc (.cells #[] 23)) w.heap.size 23 (.slice (some ⟨w1.heap.size, 0, none⟩) 0 0) 0 []) := Lib.hid (que_base (que_own (World.ownsRow_made w1 #[] 0 (Nat.le_refl _) (by decide) rfl) rfl) X1.out.b.size); have HA2 := Lib.hid (HA.out.step (pstep X1.out.b (below_alloc w1 (.cells #[] 23)))); have X2 := Lib.hid (X1.out.step (below_alloc w1 (.cells #[] 23))); have s2 := X2.out.b.size; clear hb)
    | (at_builtin; refine wpList_append_que shL rfl _ _ 22 rfl w.heap.size 23 i0 _ 24 Tryd.underlying22 hi hz0 hz1 hz2 rfl (.slice (some ⟨w1.heap.size, 0, none⟩) 0 0) 0 [] hs rfl HO.out la n lc rfl HLN HA2.out (by unfold maxLen; omega) (by omega) s2 ?_; intro ra rc w3 own3 grow3 _; have KQ : Hid (Kq w w3 hs (.slice ra n rc) n) := Lib.hid ⟨X2.out.b.grown grow3 s2 (fun k hk => by cases hk; exact X1.out.b.size), (grow3.block _ (heap_lt X2.out.z) (fun e => absurd (Option.some.inj e) (Nat.ne_of_lt (heap_lt X1.out.z)))).trans X2.out.z, by rw [Nat.zero_add] at own3; exact own3⟩; clear own3 grow3)
    | fail)
  clear G0 l0 hx HLX
  try clear G1 l1 c1 HO HA2 X1 X2 s2
  have sl : ∀ l, (strB l).toList = l := strB_list
  have HM6 : Hid ((([] : List UInt8)).length = 0) := Lib.hid (by first | exact hm.out | (simp; done) | (simp [hm.out]; done) | (rw [List.length_take, hm.out]; omega))
  go_wp2_with (first
    | (refine wpList_bytes rfl _ rfl (([] : List UInt8)) (0) HM6 rfl ?_; intro c6 w6 a6 b6; have A6 := Lib.hid a6; have K6 := Lib.hid (KQ.out.step b6); have Z6 := pair_at K6.out.z; have F6 := (fun i => frozen_of_row w6 (w.heap.size + 1) i _ _ K6.out.z); have z6 := heap_lt K6.out.z; clear a6)
    | fail)
  refine bodyPost_ret (results_row_tmp1 rfl _ _ (w.heap.size + 1) 25 #[.slice ra (n) rc, .slice (some ⟨w3.heap.size, 0, none⟩) (0) c6] (0, 0) _ rfl (two_set K6.out.z) Tryd.underlying25 rfl size_tty) rfl ?_
  exact kq_end (s := ⟨lines, ([] : List UInt8)⟩) K6.out (HI.out.step K6.out.b) A6.out HM6.out
set_option maxHeartbeats 2000000 in
set_option maxRecDepth 100000 in
theorem qkey_erase0 {la ea : Option Addr} {n lc m ec : Nat} {lines : List (List UInt8)} {edit : List UInt8} (w : World) (HL : Hid (LnsAt w la lc lines)) (hn : Hid (lines.length = n)) (HE : Hid (shB.At w ea ec edit)) (hm : Hid (edit.length = m)) (hn4 : n ≤ 400) (hr : Hid (rgtQ lines n m = true)) (h : Hid (edit = [])) :
    Calls Tryd.prog 10 #[.agg #[.slice la n lc, .slice ea m ec], .int .u8 8] w (KeyFr w n 0 ⟨lines, []⟩ 0) := by
  obtain rfl := h.out
  clear h
  obtain ⟨i0, hi, hz0, hz1, hz2⟩ := info_parts' info_bytes
  have hx := Lib.hid (bx_new w (.slice la n lc) (.slice ea m ec))
  obtain ⟨hs, ha, hl⟩ := HL.out
  have HA := Lib.hid ha
  have HI := Lib.hid hl
  have HLN : Hid (hs.length = n) := Lib.hid (by rw [hl.n]; exact hn.out)
  clear ha hl
  go_enter Tryd.func10, Tryd.ntmps10
  go_upto_region 1 with fail
  generalize (w.alloc (.cells #[.slice la n lc, .slice ea m ec] 25)).alloc (.cells #[.slice none 0 0, .slice none 0 0] 25) = X at hx ⊢
  have G0 := pair_at hx.out.d
  have l0 := heap_lt hx.out.d
  have HLX := Lib.hid (HL.out.step hx.out.b)
  go_upto_region 5 with (first
    | (go_at_call 14; (with_reducible refine (qright_W _ HLX hn (by omega) true hr).mono ?_); rintro e w1 ⟨rfl, hb⟩; have X1 := Lib.hid (hx.out.step hb); have G1 := pair_at X1.out.d; have l1 := heap_lt X1.out.d; have c1 := conv_at (HE.out.step X1.out.b) hm.out; have HO : Hid (Que shL (w1.alloc (.cells #[] 23)) w.heap.size 23 (.slice (some ⟨w1.heap.size, 0, none⟩) 0 0) 0 []) := Lib.hid (que_base (que_own (World.ownsRow_made w1 #[] 0 (Nat.le_refl _) (by decide) rfl) rfl) X1.out.b.size); have HA2 := Lib.hid (HA.out.step (pstep X1.out.b (below_alloc w1 (.cells #[] 23)))); have X2 := Lib.hid (X1.out.step (below_alloc w1 (.cells #[] 23))); have s2 := X2.out.b.size; clear hb)
    | (at_builtin; refine wpList_append_que shL rfl _ _ 22 rfl w.heap.size 23 i0 _ 24 Tryd.underlying22 hi hz0 hz1 hz2 rfl (.slice (some ⟨w1.heap.size, 0, none⟩) 0 0) 0 [] hs rfl HO.out la n lc rfl HLN HA2.out (by unfold maxLen; omega) (by omega) s2 ?_; intro ra rc w3 own3 grow3 _; have KQ : Hid (Kq w w3 hs (.slice ra n rc) n) := Lib.hid ⟨X2.out.b.grown grow3 s2 (fun k hk => by cases hk; exact X1.out.b.size), (grow3.block _ (heap_lt X2.out.z) (fun e => absurd (Option.some.inj e) (Nat.ne_of_lt (heap_lt X1.out.z)))).trans X2.out.z, by rw [Nat.zero_add] at own3; exact own3⟩; clear own3 grow3)
    | fail)
  clear G0 l0 hx HLX
  try clear G1 l1 c1 HO HA2 X1 X2 s2
  have sl : ∀ l, (strB l).toList = l := strB_list
  have HM6 : Hid ((([] : List UInt8)).length = 0) := Lib.hid (by first | exact hm.out | (simp; done) | (simp [hm.out]; done) | (rw [List.length_take, hm.out]; omega))
  go_wp2_with (first
    | (refine wpList_bytes rfl _ rfl (([] : List UInt8)) (0) HM6 rfl ?_; intro c6 w6 a6 b6; have A6 := Lib.hid a6; have K6 := Lib.hid (KQ.out.step b6); have Z6 := pair_at K6.out.z; have F6 := (fun i => frozen_of_row w6 (w.heap.size + 1) i _ _ K6.out.z); have z6 := heap_lt K6.out.z; clear a6)
    | fail)
  refine bodyPost_ret (results_row_tmp1 rfl _ _ (w.heap.size + 1) 25 #[.slice ra (n) rc, .slice (some ⟨w3.heap.size, 0, none⟩) (0) c6] (0, 0) _ rfl (two_set K6.out.z) Tryd.underlying25 rfl size_tty) rfl ?_
  exact kq_end (s := ⟨lines, ([] : List UInt8)⟩) K6.out (HI.out.step K6.out.b) A6.out HM6.out
set_option maxHeartbeats 2000000 in
set_option maxRecDepth 100000 in
theorem qkey_erase {la ea : Option Addr} {n lc m ec : Nat} {lines : List (List UInt8)} {edit : List UInt8} (w : World) (HL : Hid (LnsAt w la lc lines)) (hn : Hid (lines.length = n)) (HE : Hid (shB.At w ea ec edit)) (hm : Hid (edit.length = m)) (hn4 : n ≤ 400) (hm6 : m ≤ 64) (hr : Hid (rgtQ lines n m = true)) (k : Nat) (h : Hid (m = k + 1)) :
    Calls Tryd.prog 10 #[.agg #[.slice la n lc, .slice ea m ec], .int .u8 8] w (KeyFr w n k ⟨lines, edit.take k⟩ 0) := by
  obtain ⟨i0, hi, hz0, hz1, hz2⟩ := info_parts' info_bytes
  have hx := Lib.hid (bx_new w (.slice la n lc) (.slice ea m ec))
  obtain ⟨hs, ha, hl⟩ := HL.out
  have HA := Lib.hid ha
  have HI := Lib.hid hl
  have HLN : Hid (hs.length = n) := Lib.hid (by rw [hl.n]; exact hn.out)
  clear ha hl
  go_enter Tryd.func10, Tryd.ntmps10
  go_upto_region 1 with fail
  generalize (w.alloc (.cells #[.slice la n lc, .slice ea m ec] 25)).alloc (.cells #[.slice none 0 0, .slice none 0 0] 25) = X at hx ⊢
  have G0 := pair_at hx.out.d
  have l0 := heap_lt hx.out.d
  have HLX := Lib.hid (HL.out.step hx.out.b)
  go_upto_region 5 with (first
    | (go_at_call 14; (with_reducible refine (qright_W _ HLX hn (by omega) true hr).mono ?_); rintro e w1 ⟨rfl, hb⟩; have X1 := Lib.hid (hx.out.step hb); have G1 := pair_at X1.out.d; have l1 := heap_lt X1.out.d; have c1 := conv_at (HE.out.step X1.out.b) hm.out; have HO : Hid (Que shL (w1.alloc (.cells #[] 23)) w.heap.size 23 (.slice (some ⟨w1.heap.size, 0, none⟩) 0 0) 0 []) := Lib.hid (que_base (que_own (World.ownsRow_made w1 #[] 0 (Nat.le_refl _) (by decide) rfl) rfl) X1.out.b.size); have HA2 := Lib.hid (HA.out.step (pstep X1.out.b (below_alloc w1 (.cells #[] 23)))); have X2 := Lib.hid (X1.out.step (below_alloc w1 (.cells #[] 23))); have s2 := X2.out.b.size; clear hb)
    | (at_builtin; refine wpList_append_que shL rfl _ _ 22 rfl w.heap.size 23 i0 _ 24 Tryd.underlying22 hi hz0 hz1 hz2 rfl (.slice (some ⟨w1.heap.size, 0, none⟩) 0 0) 0 [] hs rfl HO.out la n lc rfl HLN HA2.out (by unfold maxLen; omega) (by omega) s2 ?_; intro ra rc w3 own3 grow3 _; have KQ : Hid (Kq w w3 hs (.slice ra n rc) n) := Lib.hid ⟨X2.out.b.grown grow3 s2 (fun k hk => by cases hk; exact X1.out.b.size), (grow3.block _ (heap_lt X2.out.z) (fun e => absurd (Option.some.inj e) (Nat.ne_of_lt (heap_lt X1.out.z)))).trans X2.out.z, by rw [Nat.zero_add] at own3; exact own3⟩; clear own3 grow3)
    | fail)
  clear G0 l0 hx HLX
  try clear G1 l1 c1 HO HA2 X1 X2 s2
  have sl : ∀ l, (strB l).toList = l := strB_list
  obtain rfl := h.out
  have sz : (strB edit).size = k + 1 := (strB_size _).trans hm.out
  have ne1 : (edit == []) = false := by
    cases edit with
    | nil => exact absurd hm.out (by simp)
    | cons x r => rfl
  have ne2 : (edit != []) = true := by rw [bne, ne1]; rfl
  have ne3 : edit.isEmpty = false := by
    cases edit with
    | nil => exact absurd hm.out (by simp)
    | cons x r => rfl
  have wk := wrap_small (k := k) (by omega)
  have se : (strB edit).extract 0 k = strB (edit.take k) := strB_take edit k
  have h1 : (k : Int) ≤ (k : Int) + 1 := by omega
  have HM6 : Hid ((edit.take k).length = k) := Lib.hid (by first | exact hm.out | (simp; done) | (simp [hm.out]; done) | (rw [List.length_take, hm.out]; omega))
  go_wp2_with (first
    | (refine wpList_bytes rfl _ rfl (edit.take k) (k) HM6 rfl ?_; intro c6 w6 a6 b6; have A6 := Lib.hid a6; have K6 := Lib.hid (KQ.out.step b6); have Z6 := pair_at K6.out.z; have F6 := (fun i => frozen_of_row w6 (w.heap.size + 1) i _ _ K6.out.z); have z6 := heap_lt K6.out.z; clear a6)
    | fail)
  refine bodyPost_ret (results_row_tmp1 rfl _ _ (w.heap.size + 1) 25 #[.slice ra (n) rc, .slice (some ⟨w3.heap.size, 0, none⟩) (k) c6] (0, 0) _ rfl (two_set K6.out.z) Tryd.underlying25 rfl size_tty) rfl ?_
  exact kq_end (s := ⟨lines, edit.take k⟩) K6.out (HI.out.step K6.out.b) A6.out HM6.out
set_option maxHeartbeats 2000000 in
set_option maxRecDepth 100000 in
theorem qkey_plain {la ea : Option Addr} {n lc m ec : Nat} {lines : List (List UInt8)} {edit : List UInt8} (w : World) (HL : Hid (LnsAt w la lc lines)) (hn : Hid (lines.length = n)) (HE : Hid (shB.At w ea ec edit)) (hm : Hid (edit.length = m)) (hn4 : n ≤ 400) (hm6 : m ≤ 64) (hr : Hid (rgtQ lines n m = true)) (h : m < 64) (b : UInt8) (hp : plainQ b) :
    Calls Tryd.prog 10 #[.agg #[.slice la n lc, .slice ea m ec], .int .u8 (ub b)] w (KeyFr w n (m + 1) ⟨lines, edit ++ [b]⟩ 0) := by
  obtain ⟨q1, q2, q3, q4, q5⟩ := plain_ne hp
  have sz : (strB edit).size = m := (strB_size _).trans hm.out
  have h63 : decide ((m : Int) > 63) = false := by simp; omega
  have ad : ∀ W, (Op.stringOp .add (strB edit) (strB [b])).run Tryd.prog W = .ok (.string (strB (edit ++ [b]))) W := fun W => str_add edit [b] W (by rw [hm.out]; simp; omega)
  clear hp
  obtain ⟨i0, hi, hz0, hz1, hz2⟩ := info_parts' info_bytes
  have hx := Lib.hid (bx_new w (.slice la n lc) (.slice ea m ec))
  obtain ⟨hs, ha, hl⟩ := HL.out
  have HA := Lib.hid ha
  have HI := Lib.hid hl
  have HLN : Hid (hs.length = n) := Lib.hid (by rw [hl.n]; exact hn.out)
  clear ha hl
  go_enter Tryd.func10, Tryd.ntmps10
  go_upto_region 1 with fail
  generalize (w.alloc (.cells #[.slice la n lc, .slice ea m ec] 25)).alloc (.cells #[.slice none 0 0, .slice none 0 0] 25) = X at hx ⊢
  have G0 := pair_at hx.out.d
  have l0 := heap_lt hx.out.d
  have HLX := Lib.hid (HL.out.step hx.out.b)
  go_upto_region 5 with (first
    | (go_at_call 14; (with_reducible refine (qright_W _ HLX hn (by omega) true hr).mono ?_); rintro e w1 ⟨rfl, hb⟩; have X1 := Lib.hid (hx.out.step hb); have G1 := pair_at X1.out.d; have l1 := heap_lt X1.out.d; have c1 := conv_at (HE.out.step X1.out.b) hm.out; have HO : Hid (Que shL (w1.alloc (.cells #[] 23)) w.heap.size 23 (.slice (some ⟨w1.heap.size, 0, none⟩) 0 0) 0 []) := Lib.hid (que_base (que_own (World.ownsRow_made w1 #[] 0 (Nat.le_refl _) (by decide) rfl) rfl) X1.out.b.size); have HA2 := Lib.hid (HA.out.step (pstep X1.out.b (below_alloc w1 (.cells #[] 23)))); have X2 := Lib.hid (X1.out.step (below_alloc w1 (.cells #[] 23))); have s2 := X2.out.b.size; clear hb)
    | (at_builtin; refine wpList_append_que shL rfl _ _ 22 rfl w.heap.size 23 i0 _ 24 Tryd.underlying22 hi hz0 hz1 hz2 rfl (.slice (some ⟨w1.heap.size, 0, none⟩) 0 0) 0 [] hs rfl HO.out la n lc rfl HLN HA2.out (by unfold maxLen; omega) (by omega) s2 ?_; intro ra rc w3 own3 grow3 _; have KQ : Hid (Kq w w3 hs (.slice ra n rc) n) := Lib.hid ⟨X2.out.b.grown grow3 s2 (fun k hk => by cases hk; exact X1.out.b.size), (grow3.block _ (heap_lt X2.out.z) (fun e => absurd (Option.some.inj e) (Nat.ne_of_lt (heap_lt X1.out.z)))).trans X2.out.z, by rw [Nat.zero_add] at own3; exact own3⟩; clear own3 grow3)
    | fail)
  clear G0 l0 hx HLX
  try clear G1 l1 c1 HO HA2 X1 X2 s2
  have sl : ∀ l, (strB l).toList = l := strB_list
  have c3 : (convert 23 9 (.slice (some ⟨w3.heap.size, 0, none⟩) 1 1)).run Tryd.prog (w3.alloc (.cells #[.int .u8 (ub b)] 5)) = .ok (.string (strB [b])) (w3.alloc (.cells #[.int .u8 (ub b)] 5)) := conv_at (byte_lit w3 b 1) rfl
  have K4 := Lib.hid (KQ.out.step (below_alloc w3 (.cells #[.int .u8 (ub b)] 5)))
  go_upto_region 25 with fail
  clear c3
  generalize w3.alloc (.cells #[.int .u8 (ub b)] 5) = w4 at K4 ⊢
  have HM6 : Hid ((edit ++ [b]).length = m + 1) := Lib.hid (by first | exact hm.out | (simp; done) | (simp [hm.out]; done) | (rw [List.length_take, hm.out]; omega))
  go_wp2_with (first
    | (refine wpList_bytes rfl _ rfl (edit ++ [b]) (m + 1) HM6 rfl ?_; intro c6 w6 a6 b6; have A6 := Lib.hid a6; have K6 := Lib.hid (K4.out.step b6); have Z6 := pair_at K6.out.z; have F6 := (fun i => frozen_of_row w6 (w.heap.size + 1) i _ _ K6.out.z); have z6 := heap_lt K6.out.z; clear a6)
    | fail)
  refine bodyPost_ret (results_row_tmp1 rfl _ _ (w.heap.size + 1) 25 #[.slice ra (n) rc, .slice (some ⟨w4.heap.size, 0, none⟩) (m + 1) c6] (0, 0) _ rfl (two_set K6.out.z) Tryd.underlying25 rfl size_tty) rfl ?_
  exact kq_end (s := ⟨lines, edit ++ [b]⟩) K6.out (HI.out.step K6.out.b) A6.out HM6.out
set_option maxHeartbeats 2000000 in
set_option maxRecDepth 100000 in
theorem qkey_line10 {la ea : Option Addr} {n lc m ec : Nat} {lines : List (List UInt8)} {edit : List UInt8} (w : World) (HL : Hid (LnsAt w la lc lines)) (hn : Hid (lines.length = n)) (HE : Hid (shB.At w ea ec edit)) (hm : Hid (edit.length = m)) (hn4 : n ≤ 400) (hm6 : m ≤ 64) (hr : Hid (rgtQ lines n m = true)) (h : n < 400) :
    Calls Tryd.prog 10 #[.agg #[.slice la n lc, .slice ea m ec], .int .u8 10] w (KeyFr w (n + 1) 0 ⟨lines ++ [edit ++ [10]], []⟩ 0) := by
  have h399 : decide ((n : Int) > 399) = false := by simp; omega
  have ad : ∀ W, (Op.stringOp .add (strB edit) ⟨#[10]⟩).run Tryd.prog W = .ok (.string (strB (edit ++ [10]))) W := fun W => str_add edit [10] W (by rw [hm.out]; simp; omega)
  obtain ⟨i0, hi, hz0, hz1, hz2⟩ := info_parts' info_bytes
  have hx := Lib.hid (bx_new w (.slice la n lc) (.slice ea m ec))
  obtain ⟨hs, ha, hl⟩ := HL.out
  have HA := Lib.hid ha
  have HI := Lib.hid hl
  have HLN : Hid (hs.length = n) := Lib.hid (by rw [hl.n]; exact hn.out)
  clear ha hl
  go_enter Tryd.func10, Tryd.ntmps10
  go_upto_region 1 with fail
  generalize (w.alloc (.cells #[.slice la n lc, .slice ea m ec] 25)).alloc (.cells #[.slice none 0 0, .slice none 0 0] 25) = X at hx ⊢
  have G0 := pair_at hx.out.d
  have l0 := heap_lt hx.out.d
  have HLX := Lib.hid (HL.out.step hx.out.b)
  go_upto_region 5 with (first
    | (go_at_call 14; (with_reducible refine (qright_W _ HLX hn (by omega) true hr).mono ?_); rintro e w1 ⟨rfl, hb⟩; have X1 := Lib.hid (hx.out.step hb); have G1 := pair_at X1.out.d; have l1 := heap_lt X1.out.d; have c1 := conv_at (HE.out.step X1.out.b) hm.out; have HO : Hid (Que shL (w1.alloc (.cells #[] 23)) w.heap.size 23 (.slice (some ⟨w1.heap.size, 0, none⟩) 0 0) 0 []) := Lib.hid (que_base (que_own (World.ownsRow_made w1 #[] 0 (Nat.le_refl _) (by decide) rfl) rfl) X1.out.b.size); have HA2 := Lib.hid (HA.out.step (pstep X1.out.b (below_alloc w1 (.cells #[] 23)))); have X2 := Lib.hid (X1.out.step (below_alloc w1 (.cells #[] 23))); have s2 := X2.out.b.size; clear hb)
    | (at_builtin; refine wpList_append_que shL rfl _ _ 22 rfl w.heap.size 23 i0 _ 24 Tryd.underlying22 hi hz0 hz1 hz2 rfl (.slice (some ⟨w1.heap.size, 0, none⟩) 0 0) 0 [] hs rfl HO.out la n lc rfl HLN HA2.out (by unfold maxLen; omega) (by omega) s2 ?_; intro ra rc w3 own3 grow3 _; have KQ : Hid (Kq w w3 hs (.slice ra n rc) n) := Lib.hid ⟨X2.out.b.grown grow3 s2 (fun k hk => by cases hk; exact X1.out.b.size), (grow3.block _ (heap_lt X2.out.z) (fun e => absurd (Option.some.inj e) (Nat.ne_of_lt (heap_lt X1.out.z)))).trans X2.out.z, by rw [Nat.zero_add] at own3; exact own3⟩; clear own3 grow3)
    | fail)
  clear G0 l0 hx HLX
  try clear G1 l1 c1 HO HA2 X1 X2 s2
  have sl : ∀ l, (strB l).toList = l := strB_list
  have HM4 : Hid ((edit ++ [10]).length = m + 1) := Lib.hid (by first | exact hm.out | (simp [hm.out]; done))
  go_upto_region 25 with (first
    | (refine wpList_bytes rfl _ rfl (edit ++ [10]) (m + 1) HM4 rfl ?_; intro c4 w4 a4 b4; have bl := below_alloc w4 (.cells #[.slice (some ⟨w3.heap.size, 0, none⟩) (m + 1) c4] 23); have A4 := Lib.hid (a4.step bl); have K4 := Lib.hid ((KQ.out.step b4).step bl); have L4 : Hid (shL.At (w4.alloc (.cells #[.slice (some ⟨w3.heap.size, 0, none⟩) (m + 1) c4] 23)) (some ⟨w4.heap.size, 0, none⟩) 1 [((some ⟨w3.heap.size, 0, none⟩, m + 1, c4) : Hd)]) := Lib.hid (Shape.At.lit (S := shL) [((some ⟨w3.heap.size, 0, none⟩, m + 1, c4) : Hd)] (heap_alloc_new w4 _)); have s4 := K4.out.b.size; have LT : Hid (∀ g, (Value.slice ra n rc).ownBlock = some g → g < w3.heap.size) := Lib.hid (fun g hg => (que_lt KQ.out.q hg).2); clear a4 b4 bl)
    | (at_builtin; refine wpList_append_que shL rfl _ _ 22 rfl w.heap.size 23 i0 _ 24 Tryd.underlying22 hi hz0 hz1 hz2 rfl (.slice ra n rc) n hs [((some ⟨w3.heap.size, 0, none⟩, m + 1, c4) : Hd)] rfl K4.out.q (some ⟨w4.heap.size, 0, none⟩) 1 1 rfl (Lib.hid rfl) L4.out (by unfold maxLen; omega) (by omega) s4 ?_; intro rb rd w5 own5 grow5 _; have K5 := Lib.hid (K4.out.put own5 grow5); have A5 : Hid (Lin w5 [((some ⟨w3.heap.size, 0, none⟩, m + 1, c4) : Hd)] [edit ++ [10]]) := Lib.hid ((Lin.one ⟨HM4.out.symm, A4.out⟩).grown grow5 (fun hd hmem _ a ha e => by rw [List.mem_singleton] at hmem; subst hmem; cases ha; exact absurd (LT.out _ e) (Nat.lt_irrefl _))); clear own5 grow5)
    | fail)
  have HM6 : Hid ((([] : List UInt8)).length = 0) := Lib.hid (by first | exact hm.out | (simp; done) | (simp [hm.out]; done) | (rw [List.length_take, hm.out]; omega))
  go_wp2_with (first
    | (refine wpList_bytes rfl _ rfl (([] : List UInt8)) (0) HM6 rfl ?_; intro c6 w6 a6 b6; have A6 := Lib.hid a6; have K6 := Lib.hid (K5.out.step b6); have Z6 := pair_at K6.out.z; have F6 := (fun i => frozen_of_row w6 (w.heap.size + 1) i _ _ K6.out.z); have z6 := heap_lt K6.out.z; clear a6)
    | fail)
  refine bodyPost_ret (results_row_tmp1 rfl _ _ (w.heap.size + 1) 25 #[.slice rb (n + 1) rd, .slice (some ⟨w5.heap.size, 0, none⟩) (0) c6] (0, 0) _ rfl (two_set K6.out.z) Tryd.underlying25 rfl size_tty) rfl ?_
  exact kq_end (s := ⟨lines ++ [edit ++ [10]], ([] : List UInt8)⟩) K6.out ((HI.out.step K6.out.b).app (A5.out.step b6)) A6.out HM6.out
set_option maxHeartbeats 2000000 in
set_option maxRecDepth 100000 in
theorem qkey_line4 {la ea : Option Addr} {n lc m ec : Nat} {lines : List (List UInt8)} {edit : List UInt8} (w : World) (HL : Hid (LnsAt w la lc lines)) (hn : Hid (lines.length = n)) (HE : Hid (shB.At w ea ec edit)) (hm : Hid (edit.length = m)) (hn4 : n ≤ 400) (hr : Hid (rgtQ lines n m = true)) (h : n < 400) :
    Calls Tryd.prog 10 #[.agg #[.slice la n lc, .slice ea m ec], .int .u8 4] w (KeyFr w (n + 1) 0 ⟨lines ++ [edit], []⟩ 0) := by
  have h399 : decide ((n : Int) > 399) = false := by simp; omega
  obtain ⟨i0, hi, hz0, hz1, hz2⟩ := info_parts' info_bytes
  have hx := Lib.hid (bx_new w (.slice la n lc) (.slice ea m ec))
  obtain ⟨hs, ha, hl⟩ := HL.out
  have HA := Lib.hid ha
  have HI := Lib.hid hl
  have HLN : Hid (hs.length = n) := Lib.hid (by rw [hl.n]; exact hn.out)
  clear ha hl
  go_enter Tryd.func10, Tryd.ntmps10
  go_upto_region 1 with fail
  generalize (w.alloc (.cells #[.slice la n lc, .slice ea m ec] 25)).alloc (.cells #[.slice none 0 0, .slice none 0 0] 25) = X at hx ⊢
  have G0 := pair_at hx.out.d
  have l0 := heap_lt hx.out.d
  have HLX := Lib.hid (HL.out.step hx.out.b)
  go_upto_region 5 with (first
    | (go_at_call 14; (with_reducible refine (qright_W _ HLX hn (by omega) true hr).mono ?_); rintro e w1 ⟨rfl, hb⟩; have X1 := Lib.hid (hx.out.step hb); have G1 := pair_at X1.out.d; have l1 := heap_lt X1.out.d; have c1 := conv_at (HE.out.step X1.out.b) hm.out; have HO : Hid (Que shL (w1.alloc (.cells #[] 23)) w.heap.size 23 (.slice (some ⟨w1.heap.size, 0, none⟩) 0 0) 0 []) := Lib.hid (que_base (que_own (World.ownsRow_made w1 #[] 0 (Nat.le_refl _) (by decide) rfl) rfl) X1.out.b.size); have HA2 := Lib.hid (HA.out.step (pstep X1.out.b (below_alloc w1 (.cells #[] 23)))); have X2 := Lib.hid (X1.out.step (below_alloc w1 (.cells #[] 23))); have s2 := X2.out.b.size; clear hb)
    | (at_builtin; refine wpList_append_que shL rfl _ _ 22 rfl w.heap.size 23 i0 _ 24 Tryd.underlying22 hi hz0 hz1 hz2 rfl (.slice (some ⟨w1.heap.size, 0, none⟩) 0 0) 0 [] hs rfl HO.out la n lc rfl HLN HA2.out (by unfold maxLen; omega) (by omega) s2 ?_; intro ra rc w3 own3 grow3 _; have KQ : Hid (Kq w w3 hs (.slice ra n rc) n) := Lib.hid ⟨X2.out.b.grown grow3 s2 (fun k hk => by cases hk; exact X1.out.b.size), (grow3.block _ (heap_lt X2.out.z) (fun e => absurd (Option.some.inj e) (Nat.ne_of_lt (heap_lt X1.out.z)))).trans X2.out.z, by rw [Nat.zero_add] at own3; exact own3⟩; clear own3 grow3)
    | fail)
  clear G0 l0 hx HLX
  try clear G1 l1 c1 HO HA2 X1 X2 s2
  have sl : ∀ l, (strB l).toList = l := strB_list
  have HM4 : Hid ((edit).length = m) := Lib.hid (by first | exact hm.out | (simp [hm.out]; done))
  go_upto_region 25 with (first
    | (refine wpList_bytes rfl _ rfl (edit) (m) HM4 rfl ?_; intro c4 w4 a4 b4; have bl := below_alloc w4 (.cells #[.slice (some ⟨w3.heap.size, 0, none⟩) (m) c4] 23); have A4 := Lib.hid (a4.step bl); have K4 := Lib.hid ((KQ.out.step b4).step bl); have L4 : Hid (shL.At (w4.alloc (.cells #[.slice (some ⟨w3.heap.size, 0, none⟩) (m) c4] 23)) (some ⟨w4.heap.size, 0, none⟩) 1 [((some ⟨w3.heap.size, 0, none⟩, m, c4) : Hd)]) := Lib.hid (Shape.At.lit (S := shL) [((some ⟨w3.heap.size, 0, none⟩, m, c4) : Hd)] (heap_alloc_new w4 _)); have s4 := K4.out.b.size; have LT : Hid (∀ g, (Value.slice ra n rc).ownBlock = some g → g < w3.heap.size) := Lib.hid (fun g hg => (que_lt KQ.out.q hg).2); clear a4 b4 bl)
    | (at_builtin; refine wpList_append_que shL rfl _ _ 22 rfl w.heap.size 23 i0 _ 24 Tryd.underlying22 hi hz0 hz1 hz2 rfl (.slice ra n rc) n hs [((some ⟨w3.heap.size, 0, none⟩, m, c4) : Hd)] rfl K4.out.q (some ⟨w4.heap.size, 0, none⟩) 1 1 rfl (Lib.hid rfl) L4.out (by unfold maxLen; omega) (by omega) s4 ?_; intro rb rd w5 own5 grow5 _; have K5 := Lib.hid (K4.out.put own5 grow5); have A5 : Hid (Lin w5 [((some ⟨w3.heap.size, 0, none⟩, m, c4) : Hd)] [edit]) := Lib.hid ((Lin.one ⟨HM4.out.symm, A4.out⟩).grown grow5 (fun hd hmem _ a ha e => by rw [List.mem_singleton] at hmem; subst hmem; cases ha; exact absurd (LT.out _ e) (Nat.lt_irrefl _))); clear own5 grow5)
    | fail)
  have HM6 : Hid ((([] : List UInt8)).length = 0) := Lib.hid (by first | exact hm.out | (simp; done) | (simp [hm.out]; done) | (rw [List.length_take, hm.out]; omega))
  go_wp2_with (first
    | (refine wpList_bytes rfl _ rfl (([] : List UInt8)) (0) HM6 rfl ?_; intro c6 w6 a6 b6; have A6 := Lib.hid a6; have K6 := Lib.hid (K5.out.step b6); have Z6 := pair_at K6.out.z; have F6 := (fun i => frozen_of_row w6 (w.heap.size + 1) i _ _ K6.out.z); have z6 := heap_lt K6.out.z; clear a6)
    | fail)
  refine bodyPost_ret (results_row_tmp1 rfl _ _ (w.heap.size + 1) 25 #[.slice rb (n + 1) rd, .slice (some ⟨w5.heap.size, 0, none⟩) (0) c6] (0, 0) _ rfl (two_set K6.out.z) Tryd.underlying25 rfl size_tty) rfl ?_
  exact kq_end (s := ⟨lines ++ [edit], ([] : List UInt8)⟩) K6.out ((HI.out.step K6.out.b).app (A5.out.step b6)) A6.out HM6.out
set_option maxHeartbeats 2000000 in
set_option maxRecDepth 100000 in
theorem qkey_word {la ea : Option Addr} {n lc m ec : Nat} {lines : List (List UInt8)} {edit : List UInt8} (w : World) (HL : Hid (LnsAt w la lc lines)) (hn : Hid (lines.length = n)) (HE : Hid (shB.At w ea ec edit)) (hm : Hid (edit.length = m)) (hn4 : n ≤ 400) (hm6 : m ≤ 64) (hr : Hid (rgtQ lines n m = true)) (k : Nat) (hk : Hid (wordL edit = k)) :
    Calls Tryd.prog 10 #[.agg #[.slice la n lc, .slice ea m ec], .int .u8 23] w (KeyFr w n k ⟨lines, edit.take k⟩ 0) := by
  obtain ⟨i0, hi, hz0, hz1, hz2⟩ := info_parts' info_bytes
  have hx := Lib.hid (bx_new w (.slice la n lc) (.slice ea m ec))
  obtain ⟨hs, ha, hl⟩ := HL.out
  have HA := Lib.hid ha
  have HI := Lib.hid hl
  have HLN : Hid (hs.length = n) := Lib.hid (by rw [hl.n]; exact hn.out)
  clear ha hl
  go_enter Tryd.func10, Tryd.ntmps10
  go_upto_region 1 with fail
  generalize (w.alloc (.cells #[.slice la n lc, .slice ea m ec] 25)).alloc (.cells #[.slice none 0 0, .slice none 0 0] 25) = X at hx ⊢
  have G0 := pair_at hx.out.d
  have l0 := heap_lt hx.out.d
  have HLX := Lib.hid (HL.out.step hx.out.b)
  go_upto_region 5 with (first
    | (go_at_call 14; (with_reducible refine (qright_W _ HLX hn (by omega) true hr).mono ?_); rintro e w1 ⟨rfl, hb⟩; have X1 := Lib.hid (hx.out.step hb); have G1 := pair_at X1.out.d; have l1 := heap_lt X1.out.d; have c1 := conv_at (HE.out.step X1.out.b) hm.out; have HO : Hid (Que shL (w1.alloc (.cells #[] 23)) w.heap.size 23 (.slice (some ⟨w1.heap.size, 0, none⟩) 0 0) 0 []) := Lib.hid (que_base (que_own (World.ownsRow_made w1 #[] 0 (Nat.le_refl _) (by decide) rfl) rfl) X1.out.b.size); have HA2 := Lib.hid (HA.out.step (pstep X1.out.b (below_alloc w1 (.cells #[] 23)))); have X2 := Lib.hid (X1.out.step (below_alloc w1 (.cells #[] 23))); have s2 := X2.out.b.size; clear hb)
    | (at_builtin; refine wpList_append_que shL rfl _ _ 22 rfl w.heap.size 23 i0 _ 24 Tryd.underlying22 hi hz0 hz1 hz2 rfl (.slice (some ⟨w1.heap.size, 0, none⟩) 0 0) 0 [] hs rfl HO.out la n lc rfl HLN HA2.out (by unfold maxLen; omega) (by omega) s2 ?_; intro ra rc w3 own3 grow3 _; have KQ : Hid (Kq w w3 hs (.slice ra n rc) n) := Lib.hid ⟨X2.out.b.grown grow3 s2 (fun k hk => by cases hk; exact X1.out.b.size), (grow3.block _ (heap_lt X2.out.z) (fun e => absurd (Option.some.inj e) (Nat.ne_of_lt (heap_lt X1.out.z)))).trans X2.out.z, by rw [Nat.zero_add] at own3; exact own3⟩; clear own3 grow3)
    | fail)
  clear G0 l0 hx HLX
  try clear G1 l1 c1 HO HA2 X1 X2 s2
  have sl : ∀ l, (strB l).toList = l := strB_list
  have hkm : k ≤ m := by
    have h1 := word_le edit
    rw [hk.out, hm.out] at h1
    exact h1
  have hWE := wordL_eq edit
  have hWT := word_take edit
  go_wp2_with fail
  go_loopw [6] (fun v wr => ∃ j : Nat, j ≤ m ∧ v = .string (strB (edit.take j)) ∧ Hid (cutQ (fun b => decide (b = 32)) (edit.take j) = cutQ (fun b => decide (b = 32)) edit) ∧ wr = w3) (fun v _ => (match v with | .string s => s.size | _ => 0))
  case atStart => exact ⟨m, Nat.le_refl _, by rw [← hm.out, List.take_length], Lib.hid (by rw [← hm.out, List.take_length]), rfl⟩
  case round =>
    obtain ⟨j, hj, rfl, HC, rfl⟩ := hrel
    cases j with
    | zero =>
      have hc0 : cutQ (fun b => decide (b = 32)) edit = [] := by rw [← HC.out]; rfl
      obtain rfl : k = 0 := by
        rw [← hk.out]
        unfold wordL wordQ
        rw [hc0]
        rfl
      have HT := Lib.hid (fun W => lastStr_W [] 0 W (Lib.hid rfl) (by decide))
      rw [show ((lastL [] : Nat) : Int) - 1 = -1 from rfl] at HT
      rw [List.take_zero]
      have sz : (strB []).size = 0 := rfl
      have se : (strB []).extract 0 0 = strB [] := strB_take [] 0
      clear hWE hWT HC hc0
      go_upto_region 25 with (first
        | (go_at_call 29; (with_reducible refine (suffix0_W _).mono ?_); rintro e w4 ⟨rfl, rfl⟩)
        | (go_at_call 30; (with_reducible refine (HT.out _).mono ?_); rintro e w5 ⟨rfl, rfl⟩)
        | fail)
      have HM6 : Hid ((([] : List UInt8)).length = 0) := Lib.hid (by first | exact hm.out | (simp; done) | (simp [hm.out]; done) | (rw [List.length_take, hm.out]; omega))
      go_wp2_with (first
        | (refine wpList_bytes rfl _ rfl (([] : List UInt8)) (0) HM6 rfl ?_; intro c6 w6 a6 b6; have A6 := Lib.hid a6; have K6 := Lib.hid (KQ.out.step b6); have Z6 := pair_at K6.out.z; have F6 := (fun i => frozen_of_row w6 (w.heap.size + 1) i _ _ K6.out.z); have z6 := heap_lt K6.out.z; clear a6)
        | fail)
      refine bodyPost_ret (results_row_tmp1 rfl _ _ (w.heap.size + 1) 25 #[.slice ra (n) rc, .slice (some ⟨w5.heap.size, 0, none⟩) (0) c6] (0, 0) _ rfl (two_set K6.out.z) Tryd.underlying25 rfl size_tty) rfl ?_
      exact kq_end (s := ⟨lines, ([] : List UInt8)⟩) K6.out (HI.out.step K6.out.b) A6.out HM6.out
    | succ i =>
      obtain ⟨x, hx⟩ : ∃ x, edit[i]? = some x := ⟨edit[i]'(by rw [hm.out]; omega), List.getElem?_eq_getElem _⟩
      have ht : edit.take (i + 1) = edit.take i ++ [x] := by rw [List.take_add_one, hx]; rfl
      have hil : (edit.take i).length = i := by rw [List.length_take, hm.out]; omega
      have sz : (strB (edit.take (i + 1))).size = i + 1 := by rw [strB_size, List.length_take, hm.out]; omega
      have h2 := HC.out
      rw [ht, cut_snoc] at h2
      by_cases hx32 : x = 32
      · subst hx32
        rw [if_pos (by decide)] at h2
        have HC2 := Lib.hid h2
        have se : (strB (edit.take (i + 1))).extract 0 i = strB (edit.take i) := by rw [strB_take, List.take_take, Nat.min_eq_left (by omega)]
        have HS := Lib.hid (fun W => suffix1_W W (edit.take i) 32 (by omega) true (Lib.hid rfl))
        rw [← ht] at HS
        have wk := wrap_small (k := i) (by omega)
        have h1 : (i : Int) ≤ (i : Int) + 1 := by omega
        generalize strB (edit.take (i + 1)) = S at sz se HS ⊢
        clear hWE hWT HC h2 ht hx hil
        go_wp2_with (first
          | (go_at_call 29; (with_reducible refine (HS.out _).mono ?_); rintro e w4 ⟨rfl, rfl⟩)
          | fail)
        go_roundw
        case rel => exact ⟨i, by omega, by first | rfl | (rw [se]), HC2, by trivial⟩
        case measure => first | (rw [se, strB_size, sz, List.length_take, hm.out]; omega) | (simp [strB_size, sz, hm.out]; omega)
      · rw [if_neg (by simpa using hx32), ← ht] at h2
        have hwk : lastL (edit.take (i + 1)) = k := by rw [h2, cut_take, ← hWE, hk.out]
        have hkj : k ≤ i + 1 := by
          have h3 := keep_le (fun b => !decide (b = 32)) (edit.take (i + 1))
          rw [show keepL (fun b => !decide (b = 32)) (edit.take (i + 1)) = k from hwk, List.length_take, hm.out] at h3
          omega
        have se : (strB (edit.take (i + 1))).extract 0 k = strB (edit.take k) := by rw [strB_take, List.take_take, Nat.min_eq_left hkj]
        have HS := Lib.hid (fun W => suffix1_W W (edit.take i) x (by omega) false (Lib.hid (decide_eq_false hx32)))
        rw [← ht] at HS
        have HT := Lib.hid (fun W => lastStr_W (edit.take (i + 1)) (i + 1) W (Lib.hid (by rw [List.length_take, hm.out]; omega)) (by omega))
        rw [hwk] at HT
        generalize strB (edit.take (i + 1)) = S at sz se HS HT ⊢
        clear hWE hWT HC h2 ht hx hil hwk
        have wk := wrap_small (k := k) (Nat.le_trans hkm (Nat.le_trans hm6 (by decide)))
        have h1 : (k : Int) ≤ (i : Int) + 1 := by
          clear HS HT sz se
          omega
        go_upto_region 25 with (first
          | (go_at_call 29; (with_reducible refine (HS.out _).mono ?_); rintro e w4 ⟨rfl, rfl⟩)
          | (go_at_call 30; (with_reducible refine (HT.out _).mono ?_); rintro e w5 ⟨rfl, rfl⟩)
          | fail)
        have HM6 : Hid ((edit.take k).length = k) := Lib.hid (by first | exact hm.out | (simp; done) | (simp [hm.out]; done) | (rw [List.length_take, hm.out]; omega))
        go_wp2_with (first
          | (refine wpList_bytes rfl _ rfl (edit.take k) (k) HM6 rfl ?_; intro c6 w6 a6 b6; have A6 := Lib.hid a6; have K6 := Lib.hid (KQ.out.step b6); have Z6 := pair_at K6.out.z; have F6 := (fun i => frozen_of_row w6 (w.heap.size + 1) i _ _ K6.out.z); have z6 := heap_lt K6.out.z; clear a6)
          | fail)
        refine bodyPost_ret (results_row_tmp1 rfl _ _ (w.heap.size + 1) 25 #[.slice ra (n) rc, .slice (some ⟨w5.heap.size, 0, none⟩) (k) c6] (0, 0) _ rfl (two_set K6.out.z) Tryd.underlying25 rfl size_tty) rfl ?_
        exact kq_end (s := ⟨lines, edit.take k⟩) K6.out (HI.out.step K6.out.b) A6.out HM6.out
/-- A key's answer, at all arguments. -/
def KeyFrAll (w : World) (s : StQ) (b : UInt8) (e : Ending) (w' : World) : Prop := KeyFr w (resK s b).1.lines.length (resK s b).1.edit.length (resK s b).1 (resK s b).2 e w'
theorem qkey_F {la ea : Option Addr} {n lc m ec : Nat} {s : StQ} (w : World) (HL : Hid (LnsAt w la lc s.lines)) (hn : Hid (s.lines.length = n)) (HE : Hid (shB.At w ea ec s.edit)) (hm : Hid (s.edit.length = m)) (hn63 : n ≤ 9223372036854775807) (b : UInt8) :
    Calls Tryd.prog 10 #[.agg #[.slice la n lc, .slice ea m ec], .int .u8 (ub b)] w (KeyFrAll w s b) := by
  unfold KeyFrAll resK
  cases hr : rgtQ s.lines s.lines.length s.edit.length with
  | false =>
    rw [hn.out, hm.out] at hr
    rw [if_neg (by simp)]
    exact qkey_form w HL hn hn63 (Lib.hid hr) b
  | true =>
    rw [hn.out, hm.out] at hr
    rw [if_pos rfl]
    obtain ⟨h1, h2, h3⟩ := rgtQ_parts hr
    have he : errQ s b = errN n m b := by rw [errN_eq, hn.out, hm.out]
    have HR := Lib.hid hr
    obtain ⟨ls, ed⟩ := s
    simp only at HL hn HE hm HR he
    rcases key_cases b with rfl | rfl | rfl | rfl | rfl | hp
    · rw [if_pos (by rw [he]; rfl)]
      have e : doQ ⟨ls, ed⟩ 8 = ⟨ls, ed.dropLast⟩ := rfl
      rw [e, List.dropLast_eq_take, hm.out]
      simp only [hn.out, List.length_take, hm.out]
      cases m with
      | zero =>
        have hed : ed = [] := List.eq_nil_of_length_eq_zero hm.out
        subst hed
        exact qkey_erase0 w HL hn HE hm h2 HR (Lib.hid rfl)
      | succ k =>
        rw [Nat.add_sub_cancel, Nat.min_eq_left (by omega)]
        exact qkey_erase w HL hn HE hm h2 h1 HR k (Lib.hid rfl)
    · rw [if_pos (by rw [he]; rfl)]
      have e : doQ ⟨ls, ed⟩ 21 = ⟨ls, []⟩ := rfl
      rw [e]
      simp only [hn.out, List.length_nil]
      exact qkey_kill w HL hn HE hm h2 HR
    · rw [if_pos (by rw [he]; rfl)]
      have e : doQ ⟨ls, ed⟩ 23 = ⟨ls, ed.take (wordL ed)⟩ := by rw [← word_take]; rfl
      have hw : (ed.take (wordL ed)).length = wordL ed := by
        have := word_le ed
        rw [List.length_take]
        omega
      rw [e]
      simp only [hn.out, hw]
      exact qkey_word w HL hn HE hm h2 h1 HR _ (Lib.hid rfl)
    · have e0 : errN n m 10 = if 400 ≤ n then 4 else 0 := rfl
      by_cases h : n = 400
      · rw [e0, if_pos (by omega)] at he
        rw [if_neg (by rw [he]; decide), he]
        exact qkey_full10 w HL hn HE hm h2 HR (Lib.hid h)
      · rw [e0, if_neg (by omega)] at he
        rw [if_pos he]
        have e : doQ ⟨ls, ed⟩ 10 = ⟨ls ++ [ed ++ [10]], []⟩ := rfl
        rw [e]
        simp only [List.length_append, hn.out, List.length_cons, List.length_nil]
        exact qkey_line10 w HL hn HE hm h2 h1 HR (by omega)
    · have e0 : errN n m 4 = if 400 ≤ n then 4 else 0 := rfl
      by_cases h : n = 400
      · rw [e0, if_pos (by omega)] at he
        rw [if_neg (by rw [he]; decide), he]
        exact qkey_full4 w HL hn HE hm h2 HR (Lib.hid h)
      · rw [e0, if_neg (by omega)] at he
        rw [if_pos he]
        have e : doQ ⟨ls, ed⟩ 4 = ⟨ls ++ [ed], []⟩ := rfl
        rw [e]
        simp only [List.length_append, hn.out, List.length_cons, List.length_nil]
        exact qkey_line4 w HL hn HE hm h2 HR (by omega)
    · have e0 : errN n m b = if 64 ≤ m then 4 else 0 := by
        unfold errN
        rw [if_neg (fun h => by rcases h with h | h; exact hp.2.2.2.1 h; exact hp.2.2.1 h), if_pos hp]
      by_cases h : m = 64
      · rw [e0, if_pos (by omega)] at he
        rw [if_neg (by rw [he]; decide), he]
        exact qkey_fullp w HL hn HE hm h2 h1 HR (Lib.hid h) b hp
      · rw [e0, if_neg (by omega)] at he
        rw [if_pos he]
        have e : doQ ⟨ls, ed⟩ b = ⟨ls, ed ++ [b]⟩ := by
          obtain ⟨h8, h21, h4, h10, h23⟩ := hp
          unfold doQ
          rw [if_neg h10, if_neg h4, if_neg h8, if_neg h21, if_neg h23]
        rw [e]
        simp only [List.length_append, hn.out, hm.out, List.length_cons, List.length_nil]
        exact qkey_plain w HL hn HE hm h2 h1 HR (by omega) b hp
theorem qkey_W {la ea : Option Addr} {n lc m ec : Nat} {s : StQ} (w : World) (HL : Hid (LnsAt w la lc s.lines)) (hn : Hid (s.lines.length = n)) (HE : Hid (shB.At w ea ec s.edit)) (hm : Hid (s.edit.length = m)) (hn63 : n ≤ 9223372036854775807) (b : UInt8) :
    Calls Tryd.prog 10 #[.agg #[.slice la n lc, .slice ea m ec], .int .u8 (ub b)] w (KeyAll w s b) := (qkey_F w HL hn HE hm hn63 b).mono fun _ _ h => h.out
end Go.Proofs.YtomgifdnnfbpnaaDoor
