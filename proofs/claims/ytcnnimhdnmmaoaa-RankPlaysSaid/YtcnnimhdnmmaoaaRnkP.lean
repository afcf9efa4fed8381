/- corebellref.HPlay. -/
import Derived.Test.YtcnnimhdnmmaoaaRnkO
import Derived.Deep.Cut
import Derived.Deep.RegionHeld3
namespace Go.Proofs.Ytcnnimhdnmmaoaa
open Go.RowKit Go.Maps

set_option maxHeartbeats 2000000 in
set_option maxRecDepth 100000 in
theorem hplay_bad (T L : Int) (rk : Bool) (V : Value) (w : World) (h : T < 1 ∨ 16 < T ∨ L < 1 ∨ 16 < L) :
    Calls Try.prog 10 #[.int .i64 T, .int .i64 L, .bool rk, V] w fun e w' => e = .returned (.tuple #[.slice none 0 0, .slice none 0 0, .slice none 0 0, .int .i64 2]) ∧ Below w.heap.size w w' := by
  have B0 := Lib.hid (below_three w (.cells #[.int .i64 T] 3) (.cells #[.int .i64 L] 3) (.cells #[.bool rk] 4))
  rcases h with h | h | h | h
  all_goals go_enter Try.func10, Try.ntmps10
  all_goals go_wp2_with fail
  all_goals
    refine bodyPost_ret (v := .tuple #[.slice none 0 0, .slice none 0 0, .slice none 0 0, .int .i64 2]) (by simp [results, Try.results10, go_sem]) rfl ?_
    exact ⟨rfl, B0.out⟩
/-- What is in memory while HPlay runs. -/
structure LpH (w wx : World) (bt bl br m1 m2 h1 h2 n K k : Nat) (rk : Bool) (es : List Int) (u : Value) (s : RkT) : Prop where
  b : Below w.heap.size w wx
  lt : w.heap.size ≤ m1 ∧ w.heap.size ≤ m2
  mp : Mp wx bt bl br m1 m2 h1 h2 n K rk k s
  o : wx.ownsRow w.heap.size 25 1 u k (shI.flat es)
section
variable {w wx wy : World} {bt bl br m1 m2 h1 h2 n K k : Nat} {rk : Bool} {es : List Int} {u : Value} {s : RkT}
theorem LpH.step (h : LpH w wx bt bl br m1 m2 h1 h2 n K k rk es u s) (hb : Below wx.heap.size wx wy) : LpH w wy bt bl br m1 m2 h1 h2 n K k rk es u s :=
  ⟨pstep h.b hb, h.lt, h.mp.step hb, own_step h.o hb⟩
/-- One operation has been done. -/
structure LpI (w wx : World) (bt bl br m1 m2 h1 h2 n K k : Nat) (rk : Bool) (es : List Int) (u : Value) (s : RkT) : Prop where
  b : Below w.heap.size w wx
  lt : w.heap.size ≤ m1 ∧ w.heap.size ≤ m2
  mp : Mp wx bt bl br m1 m2 h1 h2 n K rk (k + 1) s
  o : wx.ownsRow w.heap.size 25 1 u k (shI.flat es)
theorem LpI.step (h : LpI w wx bt bl br m1 m2 h1 h2 n K k rk es u s) (hb : Below wx.heap.size wx wy) : LpI w wy bt bl br m1 m2 h1 h2 n K k rk es u s :=
  ⟨pstep h.b hb, h.lt, h.mp.step hb, own_step h.o hb⟩
theorem LpH.turn {s' : RkT} (h : LpH w wx bt bl br m1 m2 h1 h2 n K k rk es u s) (hm : Mp wy bt bl br m1 m2 h1 h2 n K rk (k + 1) s') (ht : Turned w wx wy m1 m2) : LpI w wy bt bl br m1 m2 h1 h2 n K k rk es u s' :=
  ⟨ht.b, h.lt, hm, own_heap h.o fun g _ hg ho => (ht.o g (own_nemap h.o h.mp.mh g hg) (own_nemap h.o h.mp.mw g hg) (heap_lt ho)).trans ho⟩
theorem LpI.grown {es' : List Int} {u' : Value} (h : LpI w wx bt bl br m1 m2 h1 h2 n K k rk es u s) (hg : wx.grownBy wy u.ownBlock) (ho : wy.ownsRow w.heap.size 25 1 u' (k + 1) (shI.flat es')) : LpH w wy bt bl br m1 m2 h1 h2 n K (k + 1) rk es' u' s := by
  have e : ∀ {b t : Nat} {cs : Array Value}, ¬ t = 25 → wx.heap[b]? = some (.cells cs t (0, 0)) → wy.heap[b]? = some (.cells cs t (0, 0)) := fun ht hb => (hg.block _ (heap_lt hb) (fun e => own_ne h.o hb ht _ e.symm rfl)).trans hb
  exact ⟨h.b.grown hg h.b.size (fun j hj => (own_lt h.o hj).1), h.lt, ⟨e (by decide) h.mp.t, e (by decide) h.mp.l, e (by decide) h.mp.r, h.mp.mh.same (hg.block _ h.mp.mh.lt (fun e => own_nemap h.o h.mp.mh _ e.symm rfl)), h.mp.mw.same (hg.block _ h.mp.mw.lt (fun e => own_nemap h.o h.mp.mw _ e.symm rfl)), e (by decide) h.mp.bh, e (by decide) h.mp.bw, h.mp.ne⟩, ho⟩
end
theorem heap_add (X : World) (o : Obj) (a : Nat) (h : X.heap.size = a) : (X.alloc o).heap[a]? = some o := by subst h; exact heap_alloc_new X o
theorem mp_new (w : World) (n K : Nat) (rk : Bool) : LpH w (((((((w.alloc (.cells #[.int .i64 (n : Int)] 3)).alloc (.cells #[.int .i64 (K : Int)] 3)).alloc (.cells #[.bool rk] 4)).alloc (.map #[] 0)).alloc (.map #[] 0)).alloc (.cells #[.map (some (w.heap.size + 1 + 1 + 1))] 44)).alloc (.cells #[.map (some (w.heap.size + 1 + 1 + 1 + 1))] 44)) w.heap.size (w.heap.size + 1) (w.heap.size + 1 + 1) (w.heap.size + 1 + 1 + 1) (w.heap.size + 1 + 1 + 1 + 1) (w.heap.size + 1 + 1 + 1 + 1 + 1) (w.heap.size + 1 + 1 + 1 + 1 + 1 + 1) n K 0 rk [] (.slice none 0 0) s0K := by
  obtain ⟨x1, e1⟩ : ∃ x, x = w.alloc (.cells #[.int .i64 (n : Int)] 3) := ⟨_, rfl⟩
  have z1 : x1.heap.size = w.heap.size + 1 := by rw [e1]; simp
  have b1 : Below w.heap.size w x1 := by rw [e1]; exact below_alloc _ _
  obtain ⟨x2, e2⟩ : ∃ x, x = x1.alloc (.cells #[.int .i64 (K : Int)] 3) := ⟨_, rfl⟩
  have z2 : x2.heap.size = w.heap.size + 1 + 1 := by rw [e2]; simp [z1]
  have b2 : Below x1.heap.size x1 x2 := by rw [e2]; exact below_alloc _ _
  obtain ⟨x3, e3⟩ : ∃ x, x = x2.alloc (.cells #[.bool rk] 4) := ⟨_, rfl⟩
  have z3 : x3.heap.size = w.heap.size + 1 + 1 + 1 := by rw [e3]; simp [z2]
  have b3 : Below x2.heap.size x2 x3 := by rw [e3]; exact below_alloc _ _
  obtain ⟨x4, e4⟩ : ∃ x, x = x3.alloc (.map #[] 0) := ⟨_, rfl⟩
  have z4 : x4.heap.size = w.heap.size + 1 + 1 + 1 + 1 := by rw [e4]; simp [z3]
  have b4 : Below x3.heap.size x3 x4 := by rw [e4]; exact below_alloc _ _
  obtain ⟨x5, e5⟩ : ∃ x, x = x4.alloc (.map #[] 0) := ⟨_, rfl⟩
  have z5 : x5.heap.size = w.heap.size + 1 + 1 + 1 + 1 + 1 := by rw [e5]; simp [z4]
  have b5 : Below x4.heap.size x4 x5 := by rw [e5]; exact below_alloc _ _
  obtain ⟨x6, e6⟩ : ∃ x, x = x5.alloc (.cells #[.map (some (w.heap.size + 1 + 1 + 1))] 44) := ⟨_, rfl⟩
  have z6 : x6.heap.size = w.heap.size + 1 + 1 + 1 + 1 + 1 + 1 := by rw [e6]; simp [z5]
  have b6 : Below x5.heap.size x5 x6 := by rw [e6]; exact below_alloc _ _
  obtain ⟨x7, e7⟩ : ∃ x, x = x6.alloc (.cells #[.map (some (w.heap.size + 1 + 1 + 1 + 1))] 44) := ⟨_, rfl⟩
  have z7 : x7.heap.size = w.heap.size + 1 + 1 + 1 + 1 + 1 + 1 + 1 := by rw [e7]; simp [z6]
  have b7 : Below x6.heap.size x6 x7 := by rw [e7]; exact below_alloc _ _
  have E7 : (((((((w.alloc (.cells #[.int .i64 (n : Int)] 3)).alloc (.cells #[.int .i64 (K : Int)] 3)).alloc (.cells #[.bool rk] 4)).alloc (.map #[] 0)).alloc (.map #[] 0)).alloc (.cells #[.map (some (w.heap.size + 1 + 1 + 1))] 44)).alloc (.cells #[.map (some (w.heap.size + 1 + 1 + 1 + 1))] 44)) = x7 := by rw [e7, e6, e5, e4, e3, e2, e1]
  rw [E7]
  have B7 : Below w.heap.size w x7 := pstep (pstep (pstep (pstep (pstep (pstep b1 b2) b3) b4) b5) b6) b7
  have qt : x7.heap[w.heap.size]? = some (.cells #[.int .i64 (n : Int)] 3 (0, 0)) := (heap_step (heap_step (heap_step (heap_step (heap_step (heap_step (by rw [e1]; exact heap_add _ _ _ rfl) b2) b3) b4) b5) b6) b7)
  have ql : x7.heap[w.heap.size + 1]? = some (.cells #[.int .i64 (K : Int)] 3 (0, 0)) := (heap_step (heap_step (heap_step (heap_step (heap_step (by rw [e2]; exact heap_add _ _ _ z1) b3) b4) b5) b6) b7)
  have qr : x7.heap[w.heap.size + 1 + 1]? = some (.cells #[.bool rk] 4 (0, 0)) := (heap_step (heap_step (heap_step (heap_step (by rw [e3]; exact heap_add _ _ _ z2) b4) b5) b6) b7)
  have qh : x7.heap[w.heap.size + 1 + 1 + 1 + 1 + 1]? = some (.cells #[.map (some (w.heap.size + 1 + 1 + 1))] 44 (0, 0)) := (heap_step (by rw [e6]; exact heap_add _ _ _ z5) b7)
  have qk : x7.heap[w.heap.size + 1 + 1 + 1 + 1 + 1 + 1]? = some (.cells #[.map (some (w.heap.size + 1 + 1 + 1 + 1))] 44 (0, 0)) := (by rw [e7]; exact heap_add _ _ _ z6)
  exact ⟨B7, ⟨by omega, by omega⟩, ⟨qt, ql, qr, (MapT.step (MapT.step (MapT.step (show MapT x4 (w.heap.size + 1 + 1 + 1) 0 K (fun _ => -1) from by rw [e4, ← z3]; exact map_new _ _) b5) b6) b7), (MapT.step (MapT.step (show MapT x5 (w.heap.size + 1 + 1 + 1 + 1) 0 n (fun _ => -1) from by rw [e5, ← z4]; exact map_new _ _) b6) b7), qh, qk, by omega⟩, World.ownsRow_nil _ _ _ _⟩
theorem LpH.all {w wx : World} {bt bl br m1 m2 h1 h2 n K k : Nat} {rk : Bool} {es : List Int} {u : Value} {s : RkT} (h : LpH w wx bt bl br m1 m2 h1 h2 n K k rk es u s) : LpH w wx bt bl br m1 m2 h1 h2 n K k rk es u s ∧ wx.cell? ⟨bt, 0, none⟩ = some (.int .i64 (n : Int)) ∧ wx.cell? ⟨bl, 0, none⟩ = some (.int .i64 (K : Int)) ∧ wx.cell? ⟨h1, 0, none⟩ = some (.map (some m1)) ∧ wx.cell? ⟨h2, 0, none⟩ = some (.map (some m2)) :=
  ⟨h, one_at h.mp.t, one_at h.mp.l, one_at h.mp.bh, one_at h.mp.bw⟩
set_option maxHeartbeats 4000000 in
set_option maxRecDepth 100000 in
theorem hplay_ok {ad : Option Addr} {cap m : Nat} {ops : List RopT} (n K : Nat) (rk : Bool) (w : World) (HA : Hid (shO.At w ad cap ops)) (hm : Hid (ops.length = m)) (hmm : m ≤ 17592186044416) (hn1 : 1 ≤ n) (hn2 : n ≤ 16) (hK1 : 1 ≤ K) (hK2 : K ≤ 16) (es : List Int) (s : RkT) (hr : Hid (runK n K rk ops = (es, s))) :
    Calls Try.prog 10 #[.int .i64 n, .int .i64 K, .bool rk, .slice ad m cap] w fun e w' => ∃ ea ec ha hc wa wc, e = .returned (.tuple #[.slice ea m ec, .slice ha K hc, .slice wa n wc, .int .i64 0]) ∧ shI.At w' ea ec es ∧ shI.At w' ha hc (rowL s.hold K) ∧ shI.At w' wa wc (rowL s.wait n) ∧ Below w.heap.size w w' := by
  obtain ⟨i0, hi, hz0, hz1, hz2⟩ := info_parts' info_errno
  have hmk := @run_makeMap Try.prog
  have hd1 : decide ((n : Int) < 1) = false := decide_eq_false (by omega)
  have hd2 : decide ((16 : Int) < (n : Int)) = false := decide_eq_false (by omega)
  have hd3 : decide ((K : Int) < 1) = false := decide_eq_false (by omega)
  have hd4 : decide ((16 : Int) < (K : Int)) = false := decide_eq_false (by omega)
  go_enter Try.func10, Try.ntmps10
  go_upto_region 6 with fail
  have H0 := Lib.hid (mp_new w n K rk)
  clear hmk
  generalize (((((((w.alloc (.cells #[.int .i64 (n : Int)] 3)).alloc (.cells #[.int .i64 (K : Int)] 3)).alloc (.cells #[.bool rk] 4)).alloc (.map #[] 0)).alloc (.map #[] 0)).alloc (.cells #[.map (some (w.heap.size + 1 + 1 + 1))] 44)).alloc (.cells #[.map (some (w.heap.size + 1 + 1 + 1 + 1))] 44)) = wz at H0 ⊢
  generalize w.heap.size + 1 + 1 + 1 + 1 + 1 + 1 = h2 at H0 ⊢
  generalize w.heap.size + 1 + 1 + 1 + 1 + 1 = h1 at H0 ⊢
  generalize w.heap.size + 1 + 1 + 1 + 1 = m2 at H0 ⊢
  generalize w.heap.size + 1 + 1 + 1 = m1 at H0 ⊢
  generalize w.heap.size + 1 + 1 = br at H0 ⊢
  generalize w.heap.size + 1 = bl at H0 ⊢
  go_wp2_with fail
  go_loopw [15, 38] (fun u i wr => ∃ (k : Nat) (ra : Option Addr) (rc : Nat), k ≤ m ∧ i = .int .i64 k ∧ u = .slice ra k rc ∧ Hid (LpH w wr w.heap.size bl br m1 m2 h1 h2 n K k rk (runK n K rk (ops.take k)).1 (.slice ra k rc) (runK n K rk (ops.take k)).2)) (fun _ i _ => m - (intOf i).toNat)
  case atStart => exact ⟨0, none, 0, Nat.zero_le _, rfl, rfl, H0⟩
  case round =>
    clear H0
    obtain ⟨k, ra, rc, hk, rfl, rfl, HL⟩ := hrel
    have hlen := runK_len n K rk (ops.take k)
    rw [List.length_take, hm.out, Nat.min_eq_left hk] at hlen
    obtain ⟨st, hst⟩ : ∃ st, runK n K rk (ops.take k) = st := ⟨_, rfl⟩
    have HN : ∀ o, ops[k]? = some o → runK n K rk (ops.take (k + 1)) = stepK n K rk st o := fun o ho => by rw [runK_take ho, hst]
    rw [hst] at HL hlen
    have HNX := Lib.hid HN
    clear HN
    obtain ⟨es1, s1⟩ := st
    simp only at HL hlen
    by_cases hkl : k < m
    · obtain ⟨o, ho⟩ : ∃ o, ops[k]? = some o := ⟨ops[k]'(by rw [hm.out]; exact hkl), List.getElem?_eq_getElem _⟩
      have HNY := HNX.out _ ho
      obtain ⟨b, off, rfl, hb, e0, e1, e2⟩ := at_op HA.out ho
      have g0 := (HL.out.b.cell (p := ⟨b, off + k * 3, none⟩) hb).trans e0
      have g1 := (HL.out.b.cell (p := ⟨b, off + k * 3 + 1, none⟩) hb).trans e1
      have g2 := (HL.out.b.cell (p := ⟨b, off + k * 3 + 2, none⟩) hb).trans e2
      have hbr : b < wr.heap.size := Nat.lt_of_lt_of_le hb HL.out.b.size
      obtain ⟨kind, th, lk⟩ := o
      simp only at g0 g1 g2
      have HLEN := Lib.hid hlen
      obtain ⟨x, hx⟩ : ∃ x, errK n K rk s1 kind th lk = x := ⟨_, rfl⟩
      have HX := Lib.hid hx
      have HNZ := Lib.hid (HNY.trans (stepK_eq hx))
      clear e0 e1 e2 ho HNX hlen hst hx HNY
      have L1 := Lib.hid (HL.out.step (below_alloc wr (.cells #[.int .i64 kind, .int .i64 th, .int .i64 lk] 35)))
      have M1 := Lib.hid L1.out.mp
      have B1 := Lib.hid L1.out.b
      obtain ⟨hl1, hl2⟩ := HL.out.lt
      have hkx : k < maxLen := by unfold maxLen; omega
      have hx1 : Hid (([x] : List Int).length = 1) := Lib.hid rfl
      have HBS : Hid (∀ w' : World, Below w.heap.size w w' → w.heap.size ≤ (w'.alloc (.cells #[.int .i64 x] 25)).heap.size) := Lib.hid fun w' h => by have := h.size; simp; omega
      clear HL
      go_wp2_with (first
        | (go_at_call 21; (with_reducible refine (one_N M1 B1 hl1 hl2 hK2 hn2 kind th lk hkx x HX).mono ?_); rintro e w3 ⟨rfl, hm3, ht3⟩; have L3 := Lib.hid ((L1.out.turn hm3 ht3).step (below_alloc w3 (.cells #[.int .i64 x] 25))); have X3 := Lib.hid (lit1 w3 x 25 1); have hb3 := L3.out.b.size; clear hm3 ht3)
        | (at_builtin; refine wpList_append_n shI rfl _ _ 23 rfl w.heap.size 25 i0 _ 8 Try.underlying23 hi hz0 hz1 hz2 rfl (.slice ra k rc) k es1 [x] HLEN rfl L3.out.o (some ⟨w3.heap.size, 0, none⟩) 1 1 rfl hx1 X3.out (by unfold maxLen; omega) (by omega) hb3 ?_)
        | fail)
      intro ra5 rc5 w5 own5 grow5 _
      have L5 := Lib.hid (L3.out.grown grow5 own5)
      clear own5 grow5 L3 X3
      go_wp2_with fail
      go_roundw
      case rel => exact ⟨k + 1, ra5, rc5, by omega, by go_num, rfl, by rw [HNZ.out]; exact L5⟩
      case measure => simp [intOf]; omega
    · obtain rfl : k = m := by omega
      have hre : (es1, s1) = (es, s) := by rw [← hst, ← hr.out, ← hm.out, List.take_length]
      simp only [Prod.mk.injEq] at hre
      obtain ⟨rfl, rfl⟩ := hre
      have HLEN := Lib.hid hlen
      clear HNX hst hlen
      have SD := HL.out
      have LD := HL.out.step (Below.refl _ _).drew
      have MH := Lib.hid LD.mp.mh
      have MW := Lib.hid LD.mp.mw
      go_upto_region 12 with fail
      go_region_held3 (fun w' => LpH w w' w.heap.size bl br m1 m2 h1 h2 n K k rk es1 (.slice ra k rc) s1 ∧ w'.cell? ⟨w.heap.size, 0, none⟩ = some (.int .i64 (n : Int)) ∧ w'.cell? ⟨bl, 0, none⟩ = some (.int .i64 (K : Int)) ∧ w'.cell? ⟨h1, 0, none⟩ = some (.map (some m1)) ∧ w'.cell? ⟨h2, 0, none⟩ = some (.map (some m2)))
        (first | (refine LpH.all ?_; with_reducible assumption))
        (first
        | (go_at_call 22; (with_reducible refine (list_N _ MH hK2).mono ?_); rintro e w4 ⟨ha, hc, rfl, hat, hb⟩; have TT := LD.step hb; have A4 := Lib.hid hat; have MA := Lib.hid TT.mp.mw; clear hb hat)
        | (go_at_call 22; (with_reducible refine (list_N _ MA hn2).mono ?_); rintro e w6 ⟨wa, wcc, rfl, hat, hb⟩; have S6 := TT.step hb; have TH := Lib.hid (A4.out.step hb); have TW := Lib.hid hat; have TT := S6; have SF := Lib.hid S6; clear hb hat)
        | (go_at_call 22; (with_reducible refine (list_N _ MW hn2).mono ?_); rintro e w4 ⟨wa, wcc, rfl, hat, hb⟩; have TT := LD.step hb; have A4 := Lib.hid hat; have MB := Lib.hid TT.mp.mh; clear hb hat)
        | (go_at_call 22; (with_reducible refine (list_N _ MB hK2).mono ?_); rintro e w6 ⟨ha, hc, rfl, hat, hb⟩; have S6 := TT.step hb; have TW := Lib.hid (A4.out.step hb); have TH := Lib.hid hat; have TT := S6; have SF := Lib.hid S6; clear hb hat)
        | fail)
      all_goals go_wp2_with fail
      all_goals refine bodyPost_ret (v := .tuple #[.slice ra k rc, .slice ha K hc, .slice wa n wcc, .int .i64 0]) (by simp [results, Try.results10, go_sem]) rfl ?_
      all_goals exact ⟨_, _, _, _, _, _, rfl, Shape.At.own (S := shI) SF.out.o HLEN.out, TH.out, TW.out, SF.out.b⟩
end Go.Proofs.Ytcnnimhdnmmaoaa
