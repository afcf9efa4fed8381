/- corebellref.QType; TtyTypes: the walk. -/
import Derived.Test.YtomgifdnnfbpnaaDoorTyK
import Derived.Test.YtomgifdnnfbpnaaDoorTyO
namespace Go.Proofs.YtomgifdnnfbpnaaDoor
open Go.RowKit

/-- What is in memory while keys are processed, one text behind the other. -/
structure LpY (w W : World) (la ea : Option Addr) (n lc m ec : Nat) (s : StQ) : Prop where
  b : Below w.heap.size w W
  z : W.heap[w.heap.size]? = some (.cells #[.slice none 0 0, .slice none 0 0] tT (0, 0))
  d : W.heap[w.heap.size + 1]? = some (.cells #[.slice la n lc, .slice ea m ec] tT (0, 0))
  l1 : LnsAt W la lc s.lines
  l2 : shB.At W ea ec s.edit
  n1 : s.lines.length = n
  n2 : s.edit.length = m
  f : ∀ a, la = some a → w.heap.size + 1 < a.block
section
variable {w W W' : World} {la ea : Option Addr} {n lc m ec : Nat} {s : StQ}
theorem LpY.step (h : LpY w W la ea n lc m ec s) (hb : Below W.heap.size W W') : LpY w W' la ea n lc m ec s := ⟨pstep h.b hb, heap_step h.z hb, heap_step h.d hb, h.l1.step hb, h.l2.step hb, h.n1, h.n2, h.f⟩
/-- A row of lines stays while a terminal's block is written that lies apart. -/
theorem lns_two_set {B k j xn xc0 yn yc0 : Nat} {xa ya x0 y0 : Option Addr} {xc yc : Nat} {ls : List (List UInt8)} (h1 : LnsAt W xa xc ls) (hB : W.heap[B]? = some (.cells #[.slice x0 xn xc0, .slice y0 yn yc0] tT (0, 0))) (hf : ∀ a, xa = some a → a.block ≠ B) : LnsAt ((W.setCell ⟨B, 0, none⟩ (.slice xa k xc)).setCell ⟨B, 1, none⟩ (.slice ya j yc)) xa xc ls := by
  obtain ⟨hs, q1, q2⟩ := h1
  have hA := lin_ne q2 hB (fun k e => by cases e) (fun k e => by cases e)
  refine ⟨hs, ⟨q1.1, fun h0 => ?_⟩, lin_set (lin_set q2 hA _ _) hA _ _⟩
  obtain ⟨b, off, e, hb, hc⟩ := q1.2 h0
  exact ⟨b, off, e, by simpa using hb, fun k hk => ((World.cell?_of_block (a := ⟨b, off + k, none⟩) (two_other W _ _ (show b ≠ B from hf _ e)))).trans (hc k hk)⟩
theorem at_two_set {B k j xn xc0 yn yc0 : Nat} {xa ya x0 y0 : Option Addr} {xc yc : Nat} {l : List UInt8} (h2 : shB.At W ya yc l) (hB : W.heap[B]? = some (.cells #[.slice x0 xn xc0, .slice y0 yn yc0] tT (0, 0))) : shB.At ((W.setCell ⟨B, 0, none⟩ (.slice xa k xc)).setCell ⟨B, 1, none⟩ (.slice ya j yc)) ya yc l := by
  have hE : Lin W [((ya, l.length, yc) : Hd)] [l] := Lin.one ⟨rfl, h2⟩
  have hA2 := lin_ne hE hB (fun k e => by cases e) (fun k e => by cases e)
  exact ((lin_set (lin_set hE hA2 _ _) hA2 _ _).a 0 _ _ rfl rfl).a
/-- Another terminal is stored. -/
theorem LpY.put {xa ya : Option Addr} {k xc j yc : Nat} {s' : StQ} (h : LpY w W la ea n lc m ec s) (h1 : LnsAt W xa xc s'.lines) (h2 : shB.At W ya yc s'.edit) (e1 : s'.lines.length = k) (e2 : s'.edit.length = j) (hf : ∀ a, xa = some a → w.heap.size + 1 < a.block) :
    LpY w ((W.setCell ⟨w.heap.size + 1, 0, none⟩ (.slice xa k xc)).setCell ⟨w.heap.size + 1, 1, none⟩ (.slice ya j yc)) xa ya k xc j yc s' := by
  exact ⟨two_below _ _ h.b (by omega), (two_other W _ _ (by omega)).trans h.z, two_set h.d, lns_two_set h1 h.d (fun a ha => by have := hf a ha; omega), at_two_set h2 h.d, e1, e2, hf⟩
end
set_option maxHeartbeats 2000000 in
set_option maxRecDepth 100000 in
theorem qtype_W {ad : Option Addr} {cap n : Nat} {ks : List UInt8} (w : World) (HA : Hid (shB.At w ad cap ks)) (hn : Hid (ks.length = n)) (hn63 : n ≤ 9223372036854775806) (s : StQ) (hs : Hid (typeQ newQ ks = s)) (N M : Nat) (hN : Hid (s.lines.length = N)) (hM : Hid (s.edit.length = M)) :
    Calls Tryd.prog 17 #[.slice ad n cap] w (TypeOut w N M s) := by
  have H2 : Hid (LpY w ((w.alloc (.cells #[.slice none 0 0, .slice none 0 0] 25)).alloc (.cells #[.slice none 0 0, .slice none 0 0] 25)) none none 0 0 0 0 newQ) := Lib.hid ⟨below_two w _ _, heap_step (heap_alloc_new w _) (below_alloc _ _), heap_alloc2_new w _ _, LnsAt.nil _, Shape.At.nil _, rfl, rfl, fun a h => by cases h⟩
  go_enter Tryd.func17, Tryd.ntmps17
  go_wp2_with fail
  generalize (w.alloc (.cells #[.slice none 0 0, .slice none 0 0] 25)).alloc (.cells #[.slice none 0 0, .slice none 0 0] 25) = wz at H2 ⊢
  go_loopw [10] (fun i wr => ∃ (k n1 m1 : Nat) (la : Option Addr) (lc : Nat) (ea : Option Addr) (ec : Nat), k ≤ n ∧ i = .int .i64 k ∧ Hid (LpY w wr la ea n1 lc m1 ec (typeQ newQ (ks.take k)))) (fun i _ => n - (intOf i).toNat)
  case atStart => exact ⟨0, 0, 0, none, 0, none, 0, Nat.zero_le _, rfl, H2⟩
  case round =>
    clear H2
    obtain ⟨k, n1, m1, la, lc, ea, ec, hk, rfl, HL⟩ := hrel
    by_cases hlt : k < n
    · obtain ⟨x, hx⟩ : ∃ x, ks[k]? = some x := ⟨ks[k]'(by rw [hn.out]; exact hlt), List.getElem?_eq_getElem _⟩
      have HNX := Lib.hid (typeQ_next hx newQ)
      have HGD := Lib.hid (good_typeQ (ks := ks.take k) good_newQ)
      obtain ⟨bb, off, rfl, hb, e0⟩ := at_byte HA.out hx
      have g0 := (HL.out.b.cell (p := ⟨bb, off + k, none⟩) hb).trans e0
      have hbr : bb < wr.heap.size := Nat.lt_of_lt_of_le hb HL.out.b.size
      obtain ⟨st, hst⟩ : ∃ st, typeQ newQ (ks.take k) = st := ⟨_, rfl⟩
      rw [hst] at HL HNX HGD
      have hn4 : n1 ≤ 400 := by rw [← HL.out.n1]; exact HGD.out.many
      have G1 := pair_at HL.out.d
      have l1 := heap_lt HL.out.d
      have hkey := qkey_F wr (Lib.hid HL.out.l1) (Lib.hid HL.out.n1) (Lib.hid HL.out.l2) (Lib.hid HL.out.n2) (by omega) x
      unfold KeyFrAll resK at hkey
      rw [if_pos (good_rgt HGD.out)] at hkey
      clear hx e0 hst
      by_cases hy0 : errQ st x = 0
      · have HST : Hid (keyQ st x = doQ st x) := Lib.hid (by unfold keyQ; rw [if_pos hy0])
        rw [if_pos hy0] at hkey
        obtain ⟨n2, hn2⟩ : ∃ n2, (doQ st x).lines.length = n2 := ⟨_, rfl⟩
        obtain ⟨m2, hm2⟩ : ∃ m2, (doQ st x).edit.length = m2 := ⟨_, rfl⟩
        simp only [hn2, hm2] at hkey
        have HKY := Lib.hid hkey
        have HN2 := Lib.hid hn2
        have HM2 := Lib.hid hm2
        clear hn2 hm2 hkey hy0
        go_upto_region 8 with (first
          | (go_at_call 10; (with_reducible refine HKY.out.mono ?_); rintro e w2 ⟨xa, xc, ya, yc, rfl, q1, q2, hb2, hf2⟩; have bl := below_alloc w2 (.cells #[.slice xa n2 xc, .slice ya m2 yc] 25); have L3 := Lib.hid ((HL.out.step hb2).step bl); have X1 := Lib.hid (q1.step bl); have X2 := Lib.hid (q2.step bl); have U3 := Lib.hid (heap_alloc_new w2 (.cells #[.slice xa n2 xc, .slice ya m2 yc] 25)); have F3 := Lib.hid hf2; have G3 := pair_at L3.out.d; have R3 := (fun i => frozen_of_row (w2.alloc (.cells #[.slice xa n2 xc, .slice ya m2 yc] 25)) (w.heap.size + 1) i _ _ L3.out.d); have l3 := heap_lt L3.out.d; clear q1 q2 hb2 hf2 bl)
          | fail)
        have L5 := Lib.hid (L3.out.put (s' := doQ st x) X1.out X2.out HN2.out HM2.out (fun a ha => Nat.lt_of_lt_of_le l1 (F3.out a ha)))
        clear G3 R3 l3 U3 L3
        generalize ((w2.alloc (.cells #[.slice xa n2 xc, .slice ya m2 yc] 25)).setCell ⟨w.heap.size + 1, 0, none⟩ (.slice xa n2 xc)).setCell ⟨w.heap.size + 1, 1, none⟩ (.slice ya m2 yc) = w6 at L5 ⊢
        go_wp2_with fail
        go_roundw
        case rel => exact ⟨k + 1, n2, m2, xa, xc, ya, yc, by omega, by go_num, Lib.hid (by rw [HNX.out, HST.out]; exact L5.out)⟩
        case measure => simp [intOf]; omega
      · have HST : Hid (keyQ st x = st) := Lib.hid (by unfold keyQ; rw [if_neg hy0])
        rw [if_neg hy0] at hkey
        obtain ⟨y, hy⟩ : ∃ y, errQ st x = y := ⟨_, rfl⟩
        rw [hy] at hkey hy0
        have hyb : (y == 0) = false := by simpa using hy0
        have HKY := Lib.hid hkey
        clear hkey hy
        go_wp2_with (first
          | (go_at_call 10; (with_reducible refine HKY.out.mono ?_); rintro e w2 ⟨xa, xc, ya, yc, rfl, q1, q2, hb2, hf2⟩; have L3 := Lib.hid ((HL.out.step hb2).step (below_alloc w2 (.cells #[.slice xa newQ.lines.length xc, .slice ya newQ.edit.length yc] 25))); clear q1 q2 hb2 hf2)
          | fail)
        go_roundw
        case rel => exact ⟨k + 1, n1, m1, la, lc, ea, ec, by omega, by go_num, Lib.hid (by rw [HNX.out, HST.out]; exact L3.out)⟩
        case measure => simp [intOf]; omega
    · obtain rfl : k = n := by omega
      have e : ks.take k = ks := by rw [← hn.out, List.take_length]
      rw [e, hs.out] at HL
      obtain rfl : n1 = N := by rw [← HL.out.n1, hN.out]
      obtain rfl : m1 = M := by rw [← HL.out.n2, hM.out]
      have G1 := pair_at HL.out.d
      have Z1 := pair_at HL.out.z
      have F1 := fun i => frozen_of_row wr w.heap.size i _ _ HL.out.z
      have l1 := heap_lt HL.out.d
      have z1 := heap_lt HL.out.z
      clear e hlt hk
      go_wp2_with fail
      refine bodyPost_ret (results_row1 rfl _ _ w.heap.size 25 #[.slice la n1 lc, .slice ea m1 ec] (0, 0) _ rfl (two_set HL.out.z) Tryd.underlying25 rfl size_tty) rfl ?_
      exact ⟨_, _, _, _, rfl, lns_two_set HL.out.l1 HL.out.z (fun a ha => by have := HL.out.f a ha; omega), at_two_set HL.out.l2 HL.out.z, two_below _ _ HL.out.b (Nat.le_refl _)⟩
set_option maxHeartbeats 1000000 in
set_option maxRecDepth 100000 in
theorem types_walk {ad : Option Addr} {cap n : Nat} {ks : List UInt8} (w : World) (HA : Hid (shB.At w ad cap ks)) (hn : Hid (ks.length = n)) (hn63 : n ≤ 9223372036854775806) (s : StQ) (hs : Hid (typeQ newQ ks = s)) (N M : Nat) (hN : Hid (s.lines.length = N)) (hM : Hid (s.edit.length = M)) (h4 : N ≤ 400) :
    Calls Tryd.prog 4 #[.slice ad n cap] w fun e w' => e = .returned (.bool true) ∧ Below w.heap.size w w' := by
  go_enter Tryd.func4, Tryd.ntmps4
  go_wp2_with (first
    | (go_at_call 16; (with_reducible refine (type_W _ HA hn hn63 s hs N M hN hM).mono ?_); rintro e w1 ⟨la, lc, ea, ec, rfl, q1, q2, hb⟩; have X1 := Lib.hid q1; have X2 := Lib.hid q2; have B1 := Lib.hid hb; have HA1 := Lib.hid (HA.out.step hb); clear q1 q2 hb)
    | (go_at_call 17; (with_reducible refine (qtype_W _ HA1 hn hn63 s hs N M hN hM).mono ?_); rintro e w2 ⟨xa, xc, ya, yc, rfl, q1, q2, hb⟩; have Y1 := Lib.hid q1; have Y2 := Lib.hid q2; have X3 := Lib.hid (X1.out.step hb); have X4 := Lib.hid (X2.out.step hb); have B2 := Lib.hid (pstep B1.out hb); clear q1 q2 hb)
    | (go_at_call 15; (with_reducible refine (same_T _ hN hM (by omega) X3 X4 Y1 Y2).mono ?_); rintro e w3 ⟨rfl, hb⟩; have B3 := Lib.hid (pstep B2.out hb); clear hb)
    | fail)
  go_ret
  exact ⟨rfl, B3.out⟩
theorem ttyTypes_walk (v : Value) (w : World) (h : ArgBytes w v) (u : lenOf v ≤ 140737488351232) : Calls Tryd.prog 4 #[v] w fun e w' => e = .returned (.bool true) ∧ Below w.heap.size w w' := by
  obtain ⟨ad, cap, ks, rfl, hA, _, _⟩ := h
  simp only [lenOf] at u
  exact types_walk w (Lib.hid hA) (Lib.hid rfl) (by omega) _ (Lib.hid rfl) _ _ (Lib.hid rfl) (Lib.hid rfl) (good_typeQ good_newQ).many
end Go.Proofs.YtomgifdnnfbpnaaDoor
