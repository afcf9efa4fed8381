/- TtyErase: the walk. -/
import Derived.Test.YtomgifdnnfbpnaaDoorTyI
import Derived.Test.YtomgifdnnfbpnaaDoorTyO
import Derived.Test.YtomgifdnnfbpnaaDoorTyS
import Derived.Test.YtomgifdnnfbpnaaDoorConX
import Derived.Deep.RegionLaw
import Derived.Deep.RegionHeld3
import Derived.Test.YtomgifdnnfbpnaaDoorHldM
namespace Go.Proofs.YtomgifdnnfbpnaaDoor
open Go.RowKit

/-- A terminal in a box. -/
structure Er (w W : World) (T N M : Nat) (ta tb : Option Addr) (tc td : Nat) (s : StQ) : Prop where
  b : Below w.heap.size w W
  h : W.heap[T]? = some (.cells #[.slice ta N tc, .slice tb M td] tT (0, 0))
  l1 : LnsAt W ta tc s.lines
  l2 : shB.At W tb td s.edit
theorem Er.step {w W W' : World} {T N M : Nat} {ta tb : Option Addr} {tc td : Nat} {s : StQ} (h : Er w W T N M ta tb tc td s) (hb : Below W.heap.size W W') : Er w W' T N M ta tb tc td s := ⟨pstep h.b hb, heap_step h.h hb, h.l1.step hb, h.l2.step hb⟩
theorem er_new {w W W1 : World} {N M : Nat} {ta tb : Option Addr} {tc td : Nat} {s : StQ} (hb : Below w.heap.size w W) (h1 : LnsAt W1 ta tc s.lines) (h2 : shB.At W1 tb td s.edit) (hb1 : Below W.heap.size W W1) : Er w (W1.alloc (.cells #[.slice ta N tc, .slice tb M td] tT)) W1.heap.size N M ta tb tc td s :=
  ⟨pstep (pstep hb hb1) (below_alloc _ _), heap_alloc_new W1 _, h1.step (below_alloc _ _), h2.step (below_alloc _ _)⟩
/-- Two terminals in boxes, and the keys. -/
structure Es (w W : World) (T T2 N M N1 M1 : Nat) (ta tb ua va ka ma : Option Addr) (tc td uc vc kc mc : Nat) (s0 s1 : StQ) (keys more : List UInt8) : Prop where
  a : Er w W T N M ta tb tc td s0
  c : Er w W T2 N1 M1 ua va uc vc s1
  k : shB.At W ka kc keys
  m : shB.At W ma mc more
section
variable {w W : World} {T T2 N M N1 M1 : Nat} {ta tb ua va ka ma : Option Addr} {tc td uc vc kc mc : Nat} {s0 s1 : StQ} {keys more : List UInt8}
theorem Es.step {W' : World} (h : Es w W T T2 N M N1 M1 ta tb ua va ka ma tc td uc vc kc mc s0 s1 keys more) (hb : Below W.heap.size W W') : Es w W' T T2 N M N1 M1 ta tb ua va ka ma tc td uc vc kc mc s0 s1 keys more := ⟨h.a.step hb, h.c.step hb, h.k.step hb, h.m.step hb⟩
theorem Es.all (h : Es w W T T2 N M N1 M1 ta tb ua va ka ma tc td uc vc kc mc s0 s1 keys more) : Es w W T T2 N M N1 M1 ta tb ua va ka ma tc td uc vc kc mc s0 s1 keys more ∧ W.cell? ⟨T2, 0, none⟩ = some (.slice ua N1 uc) ∧ W.cell? ⟨T2, 1, none⟩ = some (.slice va M1 vc) := ⟨h, pair_at h.c.h⟩
theorem Es.all0 (h : Es w W T T2 N M N1 M1 ta tb ua va ka ma tc td uc vc kc mc s0 s1 keys more) : Es w W T T2 N M N1 M1 ta tb ua va ka ma tc td uc vc kc mc s0 s1 keys more ∧ W.cell? ⟨T, 0, none⟩ = some (.slice ta N tc) ∧ W.cell? ⟨T, 1, none⟩ = some (.slice tb M td) := ⟨h, pair_at h.a.h⟩
theorem es_new {W1 : World} (h : Er w W T N M ta tb tc td s0) (hk : shB.At W ka kc keys) (hm : shB.At W ma mc more) (hb : Below W.heap.size W W1) (h1 : LnsAt W1 ua uc s1.lines) (h2 : shB.At W1 va vc s1.edit) : Es w (W1.alloc (.cells #[.slice ua N1 uc, .slice va M1 vc] tT)) T W1.heap.size N M N1 M1 ta tb ua va ka ma tc td uc vc kc mc s0 s1 keys more :=
  have B := pstep hb (below_alloc W1 (.cells #[.slice ua N1 uc, .slice va M1 vc] tT))
  ⟨h.step B, er_new h.b h1 h2 hb, hk.step B, hm.step B⟩
end
theorem kill_lit (X : World) (cap : Nat) : shB.At (X.alloc (.cells #[.int .u8 21] 5)) (some ⟨X.heap.size, 0, none⟩) cap [21] := Shape.At.lit (S := shB) [21] (heap_alloc_new X _)
theorem two_lit (X : World) (a b : UInt8) (cap : Nat) : shB.At (X.alloc (.cells #[.int .u8 (ub a), .int .u8 (ub b)] 5)) (some ⟨X.heap.size, 0, none⟩) cap [a, b] := Shape.At.lit (S := shB) [a, b] (heap_alloc_new X _)
set_option maxHeartbeats 4000000 in
set_option maxRecDepth 100000 in
theorem erase_np {ka ma : Option Addr} {kc mc n m : Nat} {keys : List UInt8} (w : World) (HK : Hid (shB.At w ka kc keys)) (hn : Hid (keys.length = n)) (hn63 : n ≤ 140737488351232) (b : UInt8) (s0 : StQ) (hs0 : Hid (typeQ newQ keys = s0)) (N0 M0 : Nat) (hN0 : Hid (s0.lines.length = N0)) (hM0 : Hid (s0.edit.length = M0)) (HP : Hid (decide (plainQ b) = false)) :
    Calls Tryd.prog 5 #[.slice ka n kc, .int .u8 (ub b), .slice ma m mc] w fun e w' => e = .returned (.bool true) ∧ Below w.heap.size w w' := by
  go_enter Tryd.func5, Tryd.ntmps5
  go_wp2_with (first
    | (go_at_call 18; (with_reducible refine (alive17_N _).mono ?_); rintro e w1 ⟨rfl, hb⟩; have B1 := Lib.hid hb; have HK1 := Lib.hid (HK.out.step hb); clear hb)
    | (go_at_call 16; (with_reducible refine (type_W _ HK1 hn (by omega) s0 hs0 N0 M0 hN0 hM0).mono ?_); rintro e w2 ⟨ta, tc, tb, td, rfl, q1, q2, hb⟩; have E2 := Lib.hid (er_new (N := N0) (M := M0) B1.out q1 q2 hb); have G2 := pair_at E2.out.h; have l2 := heap_lt E2.out.h; clear q1 q2 hb)
    | (go_at_call 19; (with_reducible refine (plain_W b _ false HP).mono ?_); rintro e w3 ⟨rfl, rfl⟩)
    | fail)
  go_ret
  exact ⟨rfl, E2.out.b⟩
set_option maxHeartbeats 4000000 in
set_option maxRecDepth 100000 in
theorem erase_full {ka ma : Option Addr} {kc mc n m : Nat} {keys : List UInt8} (w : World) (HK : Hid (shB.At w ka kc keys)) (hn : Hid (keys.length = n)) (hn63 : n ≤ 140737488351232) (b : UInt8) (s0 : StQ) (hs0 : Hid (typeQ newQ keys = s0)) (N0 M0 : Nat) (hN0 : Hid (s0.lines.length = N0)) (hM0 : Hid (s0.edit.length = M0)) (HP : Hid (decide (plainQ b) = true)) (h64 : Hid (M0 = 64)) :
    Calls Tryd.prog 5 #[.slice ka n kc, .int .u8 (ub b), .slice ma m mc] w fun e w' => e = .returned (.bool true) ∧ Below w.heap.size w w' := by
  have hne : ((M0 : Int) == 64) = true := eq_at (k := 64) true (decide_eq_true h64.out)
  go_enter Tryd.func5, Tryd.ntmps5
  go_wp2_with (first
    | (go_at_call 18; (with_reducible refine (alive17_N _).mono ?_); rintro e w1 ⟨rfl, hb⟩; have B1 := Lib.hid hb; have HK1 := Lib.hid (HK.out.step hb); clear hb)
    | (go_at_call 16; (with_reducible refine (type_W _ HK1 hn (by omega) s0 hs0 N0 M0 hN0 hM0).mono ?_); rintro e w2 ⟨ta, tc, tb, td, rfl, q1, q2, hb⟩; have E2 := Lib.hid (er_new (N := N0) (M := M0) B1.out q1 q2 hb); have G2 := pair_at E2.out.h; have l2 := heap_lt E2.out.h; clear q1 q2 hb)
    | (go_at_call 19; (with_reducible refine (plain_W b _ true HP).mono ?_); rintro e w3 ⟨rfl, rfl⟩)
    | fail)
  go_ret
  exact ⟨rfl, E2.out.b⟩
set_option maxHeartbeats 4000000 in
set_option maxRecDepth 100000 in
theorem erase_main {ka ma : Option Addr} {kc mc n m : Nat} {keys more : List UInt8} (w : World) (HK : Hid (shB.At w ka kc keys)) (hn : Hid (keys.length = n)) (hn63 : n ≤ 140737488351232) (b : UInt8) (s0 : StQ) (hs0 : Hid (typeQ newQ keys = s0)) (N0 M0 : Nat) (hN0 : Hid (s0.lines.length = N0)) (hM0 : Hid (s0.edit.length = M0)) (HM : Hid (shB.At w ma mc more)) (hm : Hid (more.length = m)) (hm63 : m ≤ 140737488351232) (HP : Hid (decide (plainQ b) = true)) (h64 : M0 < 64) (s1 : StQ) (hs1 : Hid (typeQ newQ [keys, [b, 8], more].flatten = s1)) (hs2 : Hid (typeQ newQ [keys, more].flatten = s1)) (N1 M1 : Nat) (hN1 : Hid (s1.lines.length = N1)) (hM1 : Hid (s1.edit.length = M1)) (hN14 : N1 ≤ 400) (hN04 : N0 ≤ 400) (hkill : Hid (M0 = 0 → m ≤ 64 → more.any pE = false → typeQ newQ [keys, more, [21]].flatten = s0)) :
    Calls Tryd.prog 5 #[.slice ka n kc, .int .u8 (ub b), .slice ma m mc] w fun e w' => e = .returned (.bool true) ∧ Below w.heap.size w w' := by
  have hne : ((M0 : Int) == 64) = false := eq_at (k := 64) false (decide_eq_false (by omega))
  go_enter Tryd.func5, Tryd.ntmps5
  go_upto_region 6 with (first
    | (go_at_call 18; (with_reducible refine (alive17_N _).mono ?_); rintro e w1 ⟨rfl, hb⟩; have B1 := Lib.hid hb; have HK1 := Lib.hid (HK.out.step hb); clear hb)
    | (go_at_call 16; (with_reducible refine (type_W _ HK1 hn (by omega) s0 hs0 N0 M0 hN0 hM0).mono ?_); rintro e w2 ⟨ta, tc, tb, td, rfl, q1, q2, hb⟩; have E2 := Lib.hid (er_new (N := N0) (M := M0) B1.out q1 q2 hb); have G2 := pair_at E2.out.h; have l2 := heap_lt E2.out.h; clear q1 q2 hb)
    | (go_at_call 19; (with_reducible refine (plain_W b _ true HP).mono ?_); rintro e w3 ⟨rfl, rfl⟩)
    | fail)
  clear G2 l2 HK1 B1
  have E3 : Hid (Er w (w2.alloc (.cells #[.slice ta N0 tc, .slice tb M0 td] 25)) w2.heap.size N0 M0 ta tb tc td s0) := E2
  clear E2
  generalize w2.heap.size = T at E3 ⊢
  generalize w2.alloc (.cells #[.slice ta N0 tc, .slice tb M0 td] 25) = wA at E3 ⊢
  have K2 := Lib.hid (HK.out.step E3.out.b)
  have M2 := Lib.hid (HM.out.step E3.out.b)
  have HL3 : Hid (LnsAt ((wA.alloc (.cells #[.int .u8 (ub b), .int .u8 8] 5)).alloc (.cells #[.slice ka n kc, .slice (some ⟨wA.heap.size, 0, none⟩) 2 2, .slice ma m mc] 23)) (some ⟨wA.heap.size + 1, 0, none⟩) 3 [keys, [b, 8], more]) := Lib.hid (by
    have B := below_alloc wA (.cells #[.int .u8 (ub b), .int .u8 8] 5)
    have h := lns_three (wA.alloc (.cells #[.int .u8 (ub b), .int .u8 8] 5)) (K2.out.step B) hn.out (two_lit wA b 8 2) (show ([b, 8] : List UInt8).length = 2 from rfl) (M2.out.step B) hm.out 3
    simpa only [World.size_alloc] using h)
  have B3 := Lib.hid (below_two wA (.cells #[.int .u8 (ub b), .int .u8 8] 5) (.cells #[.slice ka n kc, .slice (some ⟨wA.heap.size, 0, none⟩) 2 2, .slice ma m mc] 23))
  have HK3 : Hid ([keys, [b, 8], more].length = 3) := Lib.hid rfl
  have HT3 : Hid (sumL [keys, [b, 8], more] = n + 2 + m) := Lib.hid (by rw [sumL_flat]; simp [hn.out, hm.out]; omega)
  have HT2 : Hid (sumL [keys, more] = n + m) := Lib.hid (by rw [sumL_flat]; simp [hn.out, hm.out])
  have HN3 : Hid ([keys, [b, 8], more].flatten.length = n + 2 + m) := Lib.hid (by rw [← sumL_flat]; exact HT3.out)
  have HN2 : Hid ([keys, more].flatten.length = n + m) := Lib.hid (by rw [← sumL_flat]; exact HT2.out)
  go_upto_region 7 with (first
    | (go_at_call 20; (with_reducible refine (concat_X (k := 3) _ HL3 HK3 (by decide) (n + 2 + m) HT3 (by omega)).mono ?_); rintro e w4 ⟨ra, rc, rfl, hc, hb⟩; have C4 := Lib.hid hc; have B4 := Lib.hid (pstep B3.out hb); clear hc hb)
    | (go_at_call 16; (with_reducible refine (type_W _ C4 HN3 (by omega) s1 hs1 N1 M1 hN1 hM1).mono ?_); rintro e w5 ⟨ua, uc, va, vc, rfl, q1, q2, hb⟩; have PS := Lib.hid (es_new (N1 := N1) (M1 := M1) E3.out K2.out M2.out (pstep B4.out hb) q1 q2); clear q1 q2 hb)
    | fail)
  clear HL3 HK3 B3 HT3 HN3 C4 B4 K2 M2 E3
  have PS2 : Hid (Es w (w5.alloc (.cells #[.slice ua N1 uc, .slice va M1 vc] 25)) T w5.heap.size N0 M0 N1 M1 ta tb ua va ka ma tc td uc vc kc mc s0 s1 keys more) := PS
  clear PS
  generalize w5.heap.size = T2 at PS2 ⊢
  generalize w5.alloc (.cells #[.slice ua N1 uc, .slice va M1 vc] 25) = wB at PS2 ⊢
  have PSd := PS2.out.step (Below.refl wB.heap.size wB).drew
  clear PS2
  refine wp_region_noPanic ?_
  refine wp_region_held_drew (S := fun w' => Es w w' T T2 N0 M0 N1 M1 ta tb ua va ka ma tc td uc vc kc mc s0 s1 keys more ∧ w'.cell? ⟨T2, 0, none⟩ = some (.slice ua N1 uc) ∧ w'.cell? ⟨T2, 1, none⟩ = some (.slice va M1 vc)) (by kernel_rfl) (Es.all PSd) (fun hHeld => ?_)
  have hC := hHeld.1
  clear PSd
  generalize wB.drew = wC at hHeld hC ⊢
  refine wpAnyH_take (i := 0) (v := ?_) rfl (by kernel_rfl) (by kernel_rfl) (by kernel_rfl) (fun _ _ _ h => h) (Or.inl ⟨by rfl, ?_⟩) (by assumption) ?_
  rotate_left
  · (intro wz hSw; (try dsimp only at hSw); go_simp; try with_reducible rfl)
  try simp only [List.getElem_toArray, List.getElem_cons_zero, Act.put, List.setIfInBounds_toArray, List.set_cons_zero, List.set_cons_succ]
  refine wpAnyH_take (i := 1) (v := ?_) rfl (by kernel_rfl) (by kernel_rfl) (by kernel_rfl) (fun _ _ _ h => h) (Or.inl ⟨by rfl, ?_⟩) (by assumption) ?_
  rotate_left
  · (intro wz hSw; (try dsimp only at hSw); go_simp; try with_reducible rfl)
  try simp only [List.getElem_toArray, List.getElem_cons_zero, List.getElem_cons_succ, Act.put, List.setIfInBounds_toArray, List.set_cons_zero, List.set_cons_succ]
  refine wpAnyH_take (i := 2) (v := ?_) rfl (by kernel_rfl) (by kernel_rfl) (by kernel_rfl) (fun _ _ _ h => h) (Or.inl ⟨by rfl, ?_⟩) (by assumption) ?_
  rotate_left
  · (intro wz hSw; (try dsimp only at hSw); go_simp; try with_reducible rfl)
  try simp only [List.getElem_toArray, List.getElem_cons_zero, List.getElem_cons_succ, Act.put, List.setIfInBounds_toArray, List.set_cons_zero, List.set_cons_succ]
  refine wpAnyH_ready (rs := [3]) (by kernel_rfl) (by simp) ?_
  refine AllReadyH.cons rfl (fun K hK => ?_) AllReadyH.nil
  go_simp
  refine hK.out _ _ (Es.all (hC.step (below_alloc wC (.cells #[.slice ka n kc, .slice ma m mc] 23)))) (fun hHeld => ?_)
  try simp only [List.getElem_toArray, List.getElem_cons_zero, List.getElem_cons_succ, Act.put, List.setIfInBounds_toArray, List.set_cons_zero, List.set_cons_succ]
  refine wpAnyH_more (S2 := fun w' => (Es w w' T T2 N0 M0 N1 M1 ta tb ua va ka ma tc td uc vc kc mc s0 s1 keys more ∧ w'.cell? ⟨T2, 0, none⟩ = some (.slice ua N1 uc) ∧ w'.cell? ⟨T2, 1, none⟩ = some (.slice va M1 vc)) ∧ LnsAt w' (some ⟨wC.heap.size, 0, none⟩) 2 [keys, more]) (fun _ h => h.1) _ _ _ _ ?_
  have hHeld := And.intro hHeld (lns_two wC hC.k hn.out hC.m hm.out 2)
  refine wpAnyH_ready (rs := [4]) (by kernel_rfl) (by simp) ?_
  refine AllReadyH.cons rfl (fun K hK => ?_) AllReadyH.nil
  go_simp
  go_at_call 20
  refine (concat_X (k := 2) _ (Lib.hid hHeld.2) (Lib.hid rfl) (by decide) (n + m) HT2 (by omega)).mono ?_
  rintro e wE ⟨ra2, rc2, rfl, hc2, hb2⟩
  go_wp2_with fail
  refine hK.out _ _ (⟨Es.all (hHeld.1.1.step hb2), hHeld.2.step hb2⟩) (fun hHeld => ?_)
  try simp only [List.getElem_toArray, List.getElem_cons_zero, List.getElem_cons_succ, Act.put, List.setIfInBounds_toArray, List.set_cons_zero, List.set_cons_succ]
  refine wpAnyH_more (S2 := fun w' => ((Es w w' T T2 N0 M0 N1 M1 ta tb ua va ka ma tc td uc vc kc mc s0 s1 keys more ∧ w'.cell? ⟨T2, 0, none⟩ = some (.slice ua N1 uc) ∧ w'.cell? ⟨T2, 1, none⟩ = some (.slice va M1 vc)) ∧ LnsAt w' (some ⟨wC.heap.size, 0, none⟩) 2 [keys, more]) ∧ shB.At w' ra2 rc2 [keys, more].flatten) (fun _ h => h.1) _ _ _ _ ?_
  have hHeld := And.intro hHeld (hc2)
  refine wpAnyH_ready (rs := [5]) (by kernel_rfl) (by simp) ?_
  refine AllReadyH.cons rfl (fun K hK => ?_) AllReadyH.nil
  go_simp
  go_at_call 16
  refine (type_W _ (Lib.hid hHeld.2) HN2 (by omega) s1 hs2 N1 M1 hN1 hM1).mono ?_
  rintro e wF ⟨ya, yc, xa, xc, rfl, q1, q2, hb3⟩
  go_wp2_with fail
  refine hK.out _ _ (⟨⟨Es.all (hHeld.1.1.1.step hb3), hHeld.1.2.step hb3⟩, hHeld.2.step hb3⟩) (fun hHeld => ?_)
  try simp only [List.getElem_toArray, List.getElem_cons_zero, List.getElem_cons_succ, Act.put, List.setIfInBounds_toArray, List.set_cons_zero, List.set_cons_succ]
  refine wpAnyH_more (S2 := fun w' => (((Es w w' T T2 N0 M0 N1 M1 ta tb ua va ka ma tc td uc vc kc mc s0 s1 keys more ∧ w'.cell? ⟨T2, 0, none⟩ = some (.slice ua N1 uc) ∧ w'.cell? ⟨T2, 1, none⟩ = some (.slice va M1 vc)) ∧ LnsAt w' (some ⟨wC.heap.size, 0, none⟩) 2 [keys, more]) ∧ shB.At w' ra2 rc2 [keys, more].flatten) ∧ (LnsAt w' ya yc s1.lines ∧ shB.At w' xa xc s1.edit)) (fun _ h => h.1) _ _ _ _ ?_
  have hHeld := And.intro hHeld (And.intro q1 q2)
  refine wpAnyH_ready (rs := [6]) (by kernel_rfl) (by simp) ?_
  refine AllReadyH.cons rfl (fun K hK => ?_) AllReadyH.nil
  go_simp
  go_at_call 15
  refine (same_T _ hN1 hM1 (by omega) (Lib.hid hHeld.1.1.1.1.c.l1) (Lib.hid hHeld.1.1.1.1.c.l2) (Lib.hid hHeld.2.1) (Lib.hid hHeld.2.2)).mono ?_
  rintro e wG ⟨rfl, hb4⟩
  go_wp2_with fail
  refine hK.out _ _ (⟨⟨⟨Es.all (hHeld.1.1.1.1.step hb4), hHeld.1.1.2.step hb4⟩, hHeld.1.2.step hb4⟩, hHeld.2.1.step hb4, hHeld.2.2.step hb4⟩) (fun hHeld => ?_)
  try simp only [List.getElem_toArray, List.getElem_cons_zero, List.getElem_cons_succ, Act.put, List.setIfInBounds_toArray, List.set_cons_zero, List.set_cons_succ]
  refine wpAnyH_take (i := 7) (v := ?_) rfl (by kernel_rfl) (by kernel_rfl) (by kernel_rfl) (fun _ _ _ h => h) (Or.inl ⟨by rfl, ?_⟩) (by assumption) ?_
  rotate_left
  · (intro wz hSw; (try dsimp only at hSw); go_simp; try with_reducible rfl)
  try simp only [List.getElem_toArray, List.getElem_cons_zero, List.getElem_cons_succ, Act.put, List.setIfInBounds_toArray, List.set_cons_zero, List.set_cons_succ]
  refine wpAnyH_done (by kernel_rfl) ?_ _
  refine NoPanic.normal ?_
  have E9 := Lib.hid hHeld.1.1.1.1
  clear hHeld hC hs1 hs2 HT2 HN2 hne
  have G9 := pair_at E9.out.a.h
  have l9 := heap_lt E9.out.a.h
  have KM := Lib.hid E9.out.m
  by_cases h0 : 0 < M0
  · have d0 : decide ((M0 : Int) > 0) = true := decide_eq_true (by omega)
    go_wp2_with fail
    go_ret
    exact ⟨rfl, E9.out.a.b⟩
  have d0 : decide ((M0 : Int) > 0) = false := decide_eq_false (by omega)
  by_cases h6 : m > 64
  · have d1 : decide ((m : Int) > 64) = true := decide_eq_true (by omega)
    go_wp2_with fail
    go_ret
    exact ⟨rfl, E9.out.a.b⟩
  have d1 : decide ((m : Int) > 64) = false := decide_eq_false (by omega)
  by_cases hx : more.any pE = true
  · have HX := Lib.hid hx
    go_wp2_with (first
      | (go_at_call 21; (with_reducible refine (conE_W _ KM hm (by omega) true HX).mono ?_); rintro e w6 ⟨rfl, rfl⟩)
      | fail)
    go_ret
    exact ⟨rfl, E9.out.a.b⟩
  have HX : Hid (more.any pE = false) := Lib.hid (by simpa using hx)
  have HS : Hid (typeQ newQ [keys, more, [21]].flatten = s0) := Lib.hid (hkill.out (by omega) (by omega) HX.out)
  have HK4 : Hid ([keys, more, [21]].length = 3) := Lib.hid rfl
  have HT4 : Hid (sumL [keys, more, [21]] = n + m + 1) := Lib.hid (by rw [sumL_flat]; simp [hn.out, hm.out]; omega)
  have HN4 : Hid ([keys, more, [21]].flatten.length = n + m + 1) := Lib.hid (by rw [← sumL_flat]; exact HT4.out)
  go_upto_region 11 with (first
    | (go_at_call 21; (with_reducible refine (conE_W _ KM hm (by omega) false HX).mono ?_); rintro e w6 ⟨rfl, rfl⟩)
    | fail)
  clear G9 l9 KM hx HX d0 d1
  have PSd := E9.out.step (Below.refl _ _).drew
  clear E9
  refine wp_region_noPanic ?_
  refine wp_region_held_drew (S := fun w' => Es w w' T T2 N0 M0 N1 M1 ta tb ua va ka ma tc td uc vc kc mc s0 s1 keys more ∧ w'.cell? ⟨T, 0, none⟩ = some (.slice ta N0 tc) ∧ w'.cell? ⟨T, 1, none⟩ = some (.slice tb M0 td)) (by kernel_rfl) (Es.all0 PSd) (fun hHeld => ?_)
  have hC := hHeld.1
  clear PSd
  generalize World.drew _ = wQ at hHeld hC ⊢
  refine wpAnyH_take (i := 0) (v := ?_) rfl (by kernel_rfl) (by kernel_rfl) (by kernel_rfl) (fun _ _ _ h => h) (Or.inl ⟨by rfl, ?_⟩) (by assumption) ?_
  rotate_left
  · (intro wz hSw; (try dsimp only at hSw); go_simp; try with_reducible rfl)
  try simp only [List.getElem_toArray, List.getElem_cons_zero, Act.put, List.setIfInBounds_toArray, List.set_cons_zero, List.set_cons_succ]
  refine wpAnyH_take (i := 1) (v := ?_) rfl (by kernel_rfl) (by kernel_rfl) (by kernel_rfl) (fun _ _ _ h => h) (Or.inl ⟨by rfl, ?_⟩) (by assumption) ?_
  rotate_left
  · (intro wz hSw; (try dsimp only at hSw); go_simp; try with_reducible rfl)
  try simp only [List.getElem_toArray, List.getElem_cons_zero, List.getElem_cons_succ, Act.put, List.setIfInBounds_toArray, List.set_cons_zero, List.set_cons_succ]
  refine wpAnyH_take (i := 6) (v := ?_) rfl (by kernel_rfl) (by kernel_rfl) (by kernel_rfl) (fun _ _ _ h => h) (Or.inl ⟨by rfl, ?_⟩) (by assumption) ?_
  rotate_left
  · (intro wz hSw; (try dsimp only at hSw); go_simp; try with_reducible rfl)
  try simp only [List.getElem_toArray, List.getElem_cons_zero, List.getElem_cons_succ, Act.put, List.setIfInBounds_toArray, List.set_cons_zero, List.set_cons_succ]
  refine wpAnyH_ready (rs := [2]) (by kernel_rfl) (by simp) ?_
  refine AllReadyH.cons rfl (fun K hK => ?_) AllReadyH.nil
  go_simp
  refine hK.out _ _ (Es.all0 (hC.step (below_alloc wQ (.cells #[.int .u8 21] 5)))) (fun hHeld => ?_)
  try simp only [List.getElem_toArray, List.getElem_cons_zero, List.getElem_cons_succ, Act.put, List.setIfInBounds_toArray, List.set_cons_zero, List.set_cons_succ]
  refine wpAnyH_more (S2 := fun w' => (Es w w' T T2 N0 M0 N1 M1 ta tb ua va ka ma tc td uc vc kc mc s0 s1 keys more ∧ w'.cell? ⟨T, 0, none⟩ = some (.slice ta N0 tc) ∧ w'.cell? ⟨T, 1, none⟩ = some (.slice tb M0 td)) ∧ shB.At w' (some ⟨wQ.heap.size, 0, none⟩) 1 [21]) (fun _ h => h.1) _ _ _ _ ?_
  have hHeld := And.intro hHeld (kill_lit wQ 1)
  have hD := And.intro hHeld.1.1 hHeld.2
  generalize wQ.alloc (.cells #[.int .u8 21] 5) = wR at hHeld hD ⊢
  refine wpAnyH_ready (rs := [3]) (by kernel_rfl) (by simp) ?_
  refine AllReadyH.cons rfl (fun K hK => ?_) AllReadyH.nil
  go_simp
  refine hK.out _ _ (⟨Es.all0 (hD.1.step (below_alloc wR (.cells #[.slice ka n kc, .slice ma m mc, .slice (some ⟨wQ.heap.size, 0, none⟩) 1 1] 23))), hD.2.step (below_alloc wR (.cells #[.slice ka n kc, .slice ma m mc, .slice (some ⟨wQ.heap.size, 0, none⟩) 1 1] 23))⟩) (fun hHeld => ?_)
  try simp only [List.getElem_toArray, List.getElem_cons_zero, List.getElem_cons_succ, Act.put, List.setIfInBounds_toArray, List.set_cons_zero, List.set_cons_succ]
  refine wpAnyH_more (S2 := fun w' => ((Es w w' T T2 N0 M0 N1 M1 ta tb ua va ka ma tc td uc vc kc mc s0 s1 keys more ∧ w'.cell? ⟨T, 0, none⟩ = some (.slice ta N0 tc) ∧ w'.cell? ⟨T, 1, none⟩ = some (.slice tb M0 td)) ∧ shB.At w' (some ⟨wQ.heap.size, 0, none⟩) 1 [21]) ∧ LnsAt w' (some ⟨wR.heap.size, 0, none⟩) 3 [keys, more, [21]]) (fun _ h => h.1) _ _ _ _ ?_
  have hHeld := And.intro hHeld (lns_three wR hD.1.k hn.out hD.1.m hm.out hD.2 (show ([21] : List UInt8).length = 1 from rfl) 3)
  refine wpAnyH_ready (rs := [4]) (by kernel_rfl) (by simp) ?_
  refine AllReadyH.cons rfl (fun K hK => ?_) AllReadyH.nil
  go_simp
  go_at_call 20
  refine (concat_X (k := 3) _ (Lib.hid hHeld.2) HK4 (by decide) (n + m + 1) HT4 (by omega)).mono ?_
  rintro e wE ⟨ra3, rc3, rfl, hc2, hb2⟩
  go_wp2_with fail
  refine hK.out _ _ (⟨⟨Es.all0 (hHeld.1.1.1.step hb2), hHeld.1.2.step hb2⟩, hHeld.2.step hb2⟩) (fun hHeld => ?_)
  try simp only [List.getElem_toArray, List.getElem_cons_zero, List.getElem_cons_succ, Act.put, List.setIfInBounds_toArray, List.set_cons_zero, List.set_cons_succ]
  refine wpAnyH_more (S2 := fun w' => (((Es w w' T T2 N0 M0 N1 M1 ta tb ua va ka ma tc td uc vc kc mc s0 s1 keys more ∧ w'.cell? ⟨T, 0, none⟩ = some (.slice ta N0 tc) ∧ w'.cell? ⟨T, 1, none⟩ = some (.slice tb M0 td)) ∧ shB.At w' (some ⟨wQ.heap.size, 0, none⟩) 1 [21]) ∧ LnsAt w' (some ⟨wR.heap.size, 0, none⟩) 3 [keys, more, [21]]) ∧ shB.At w' ra3 rc3 [keys, more, [21]].flatten) (fun _ h => h.1) _ _ _ _ ?_
  have hHeld := And.intro hHeld (hc2)
  refine wpAnyH_ready (rs := [5]) (by kernel_rfl) (by simp) ?_
  refine AllReadyH.cons rfl (fun K hK => ?_) AllReadyH.nil
  go_simp
  go_at_call 16
  refine (type_W _ (Lib.hid hHeld.2) HN4 (by omega) s0 HS N0 M0 hN0 hM0).mono ?_
  rintro e wF ⟨ya, yc, xa, xc, rfl, q1, q2, hb3⟩
  go_wp2_with fail
  refine hK.out _ _ (⟨⟨⟨Es.all0 (hHeld.1.1.1.1.step hb3), hHeld.1.1.2.step hb3⟩, hHeld.1.2.step hb3⟩, hHeld.2.step hb3⟩) (fun hHeld => ?_)
  try simp only [List.getElem_toArray, List.getElem_cons_zero, List.getElem_cons_succ, Act.put, List.setIfInBounds_toArray, List.set_cons_zero, List.set_cons_succ]
  refine wpAnyH_more (S2 := fun w' => ((((Es w w' T T2 N0 M0 N1 M1 ta tb ua va ka ma tc td uc vc kc mc s0 s1 keys more ∧ w'.cell? ⟨T, 0, none⟩ = some (.slice ta N0 tc) ∧ w'.cell? ⟨T, 1, none⟩ = some (.slice tb M0 td)) ∧ shB.At w' (some ⟨wQ.heap.size, 0, none⟩) 1 [21]) ∧ LnsAt w' (some ⟨wR.heap.size, 0, none⟩) 3 [keys, more, [21]]) ∧ shB.At w' ra3 rc3 [keys, more, [21]].flatten) ∧ (LnsAt w' ya yc s0.lines ∧ shB.At w' xa xc s0.edit)) (fun _ h => h.1) _ _ _ _ ?_
  have hHeld := And.intro hHeld (And.intro q1 q2)
  refine wpAnyH_ready (rs := [7]) (by kernel_rfl) (by simp) ?_
  refine AllReadyH.cons rfl (fun K hK => ?_) AllReadyH.nil
  go_simp
  go_at_call 15
  refine (same_T _ hN0 hM0 (by omega) (Lib.hid hHeld.2.1) (Lib.hid hHeld.2.2) (Lib.hid hHeld.1.1.1.1.1.a.l1) (Lib.hid hHeld.1.1.1.1.1.a.l2)).mono ?_
  rintro e wG ⟨rfl, hb4⟩
  go_wp2_with fail
  refine hK.out _ _ (⟨⟨⟨⟨Es.all0 (hHeld.1.1.1.1.1.step hb4), hHeld.1.1.1.2.step hb4⟩, hHeld.1.1.2.step hb4⟩, hHeld.1.2.step hb4⟩, hHeld.2.1.step hb4, hHeld.2.2.step hb4⟩) (fun hHeld => ?_)
  try simp only [List.getElem_toArray, List.getElem_cons_zero, List.getElem_cons_succ, Act.put, List.setIfInBounds_toArray, List.set_cons_zero, List.set_cons_succ]
  refine wpAnyH_take (i := 8) (v := ?_) rfl (by kernel_rfl) (by kernel_rfl) (by kernel_rfl) (fun _ _ _ h => h) (Or.inl ⟨by rfl, ?_⟩) (by assumption) ?_
  rotate_left
  · (intro wz hSw; (try dsimp only at hSw); go_simp; try with_reducible rfl)
  try simp only [List.getElem_toArray, List.getElem_cons_zero, List.getElem_cons_succ, Act.put, List.setIfInBounds_toArray, List.set_cons_zero, List.set_cons_succ]
  refine wpAnyH_done (by kernel_rfl) ?_ _
  refine NoPanic.normal ?_
  go_wp2_with fail
  go_ret
  exact ⟨rfl, hHeld.1.1.1.1.1.a.b⟩
end Go.Proofs.YtomgifdnnfbpnaaDoor
