/- UartStream: what is read is what came, in order, but what was lost. -/
import Derived.Test.YtalcfbdnnlapnaaConB
import Derived.Test.YtalcfbdnnlapnaaUarO
import Derived.Lib.MinMax
import Derived.Deep.RegionHeld3
import Derived.Deep.RegionLaw
namespace Go.Proofs.Ytalcfbdnnlapnaa
open Go.RowKit

/-- All that the last statement reads. -/
structure SuS (W : World) (U : Nat) (R : Array Value) (ra : Option Addr) (rc : Nat) (sa : Option Addr) (sc : Nat) (ia : Option Addr) (ic : Nat) (oa : Option Addr) (oc : Nat) (xa : Option Addr) (xc : Nat) (ya : Option Addr) (yc : Nat) (rd sd inn out : List UInt8) (w : World) : Prop where
  b : Below W.heap.size W w
  u : w.heap[U]? = some (.cells R tU (0, 0))
  r : shB.At w ra rc rd
  s : shB.At w sa sc sd
  i : shB.At w ia ic inn
  o : shB.At w oa oc out
  x : shB.At w xa xc (rd ++ inn)
  y : shB.At w ya yc (sd ++ out)
section
variable {W w w' : World} {U : Nat} {R : Array Value} {ra : Option Addr} {rc : Nat} {sa : Option Addr} {sc : Nat} {ia : Option Addr} {ic : Nat} {oa : Option Addr} {oc : Nat} {xa : Option Addr} {xc : Nat} {ya : Option Addr} {yc : Nat} {rd sd inn out : List UInt8} {A B N M : Nat}
theorem SuS.step (h : SuS W U R ra rc sa sc ia ic oa oc xa xc ya yc rd sd inn out w) (hb : Below w.heap.size w w') : SuS W U R ra rc sa sc ia ic oa oc xa xc ya yc rd sd inn out w' :=
  ⟨pstep h.b hb, heap_step h.u hb, h.r.step hb, h.s.step hb, h.i.step hb, h.o.step hb, h.x.step hb, h.y.step hb⟩
theorem SuS.drew (h : SuS W U R ra rc sa sc ia ic oa oc xa xc ya yc rd sd inn out w) : SuS W U R ra rc sa sc ia ic oa oc xa xc ya yc rd sd inn out w.drew := h.step (Below.refl w.heap.size w).drew
theorem SuS.alloc (h : SuS W U R ra rc sa sc ia ic oa oc xa xc ya yc rd sd inn out w) (O : Obj) : SuS W U R ra rc sa sc ia ic oa oc xa xc ya yc rd sd inn out (w.alloc O) := h.step (below_alloc w O)
theorem SuS.all {v1 v2 v3 v4 : Value} {n1 n2 : Nat} (h : SuS W U #[v1, v2, v3, v4] ra rc sa sc ia ic oa oc xa xc ya yc rd sd inn out w) (h1 : Hid ((rd ++ inn).length = n1)) (h2 : Hid ((sd ++ out).length = n2)) : SuS W U #[v1, v2, v3, v4] ra rc sa sc ia ic oa oc xa xc ya yc rd sd inn out w ∧ (w.cell? ⟨U, 0, none⟩ = some v1 ∧ w.cell? ⟨U, 1, none⟩ = some v2 ∧ w.cell? ⟨U, 2, none⟩ = some v3 ∧ w.cell? ⟨U, 3, none⟩ = some v4) ∧ (convert 22 9 (.slice xa n1 xc)).run Try.prog w = .ok (.string (strB (rd ++ inn))) w ∧ (convert 22 9 (.slice ya n2 yc)).run Try.prog w = .ok (.string (strB (sd ++ out))) w := ⟨h, four_at h.u, conv_at h.x h1.out, conv_at h.y h2.out⟩
theorem su_cat1 (h : SuS W U R ra rc sa sc ia ic oa oc xa xc ya yc rd sd inn out w) (Q : Nat) (hq : w.heap[Q]? = some (.cells #[.slice ra A rc, .slice ia N ic] 22 (0, 0))) (hA : Hid (rd.length = A)) (hN : Hid (inn.length = N)) (h1 : A ≤ 1048576) (h2 : N ≤ 1048576) :
    Calls Try.prog 16 #[.slice (some ⟨Q, 0, none⟩) 2 2] w fun e w' => ∃ ta tc, e = .returned (.slice ta (A + N) tc) ∧ SuS W U R ra rc sa sc ia ic oa oc xa xc ya yc rd sd inn out w' ∧ shB.At w' ta tc (rd ++ inn) :=
  (concat_Byte rd inn ra ia A N rc ic Q w (Lib.hid hq) hA hN (Lib.hid h.r) (Lib.hid h.i) h1 h2 (A + N) (Lib.hid rfl)).mono fun _ _ ⟨ta, tc, e1, e2, e3⟩ => ⟨ta, tc, e1, h.step e3, e2⟩
theorem su_cat2 (h : SuS W U R ra rc sa sc ia ic oa oc xa xc ya yc rd sd inn out w) (Q : Nat) (hq : w.heap[Q]? = some (.cells #[.slice sa B sc, .slice oa M oc] 22 (0, 0))) (hB : Hid (sd.length = B)) (hM : Hid (out.length = M)) (h1 : B ≤ 1048576) (h2 : M ≤ 1048576) :
    Calls Try.prog 16 #[.slice (some ⟨Q, 0, none⟩) 2 2] w fun e w' => ∃ ta tc, e = .returned (.slice ta (B + M) tc) ∧ SuS W U R ra rc sa sc ia ic oa oc xa xc ya yc rd sd inn out w' ∧ shB.At w' ta tc (sd ++ out) ∧ Below w.heap.size w w' :=
  (concat_Byte sd out sa oa B M sc oc Q w (Lib.hid hq) hB hM (Lib.hid h.s) (Lib.hid h.o) h1 h2 (B + M) (Lib.hid rfl)).mono fun _ _ ⟨ta, tc, e1, e2, e3⟩ => ⟨ta, tc, e1, h.step e3, e2, e3⟩
end
section
variable {P : Program} {md : Region.Mode} {ops : Array Oper} {Q : Exit → Act → World → Prop}
/-- More may be held from here on. -/
theorem wpAnyH_more {S1 S2 : World → Prop} (h12 : ∀ w, S2 w → S1 w) : ∀ (fuel : Nat) (listed : Array Bool) (a : Act) (w : World), wpAnyH P md ops Q S2 fuel listed a w → wpAnyH P md ops Q S1 fuel listed a w
  | 0, _, _, _, h => h
  | fuel + 1, _, _, _, h => ⟨h.1, fun i hi => wpOp_mono (fun a' w' h' => ⟨h12 _ h'.1, wpAnyH_more h12 fuel _ a' w' h'.2⟩) (h.2 i hi)⟩
end
def v0B : SeB := ⟨0, 0, 0, [], []⟩
structure BndB (v : SeB) (k : Nat) : Prop where
  w : v.waits ≤ k
  g : v.goes ≤ k
  l : v.lost ≤ k
  i : v.inn.length ≤ k
  o : v.out.length ≤ k
theorem bnd_see {v : SeB} {k : Nat} (h : BndB v k) (o : UaT) : BndB (seeB v o) (k + 1) := by
  obtain ⟨h1, h2, h3, h4, h5⟩ := h
  unfold seeB
  split
  · split
    · exact ⟨by simp only; omega, by simp only; omega, by simp only; omega, by simp only; omega, by simp only; omega⟩
    · exact ⟨by simp only; omega, by simp only; omega, by simp only; omega, by simp only [List.length_append, List.length_cons, List.length_nil]; omega, by simp only; omega⟩
  · split
    · exact ⟨by simp only; omega, by simp only; omega, by simp only; omega, by simp only; omega, by simp only; omega⟩
    · split
      · split
        · exact ⟨by simp only; omega, by simp only; omega, by simp only; omega, by simp only; omega, by simp only [List.length_append, List.length_cons, List.length_nil]; omega⟩
        · exact ⟨by omega, by omega, by omega, by omega, by omega⟩
      · split
        · exact ⟨by simp only; omega, by simp only; omega, by simp only; omega, by simp only; omega, by simp only; omega⟩
        · exact ⟨by omega, by omega, by omega, by omega, by omega⟩
theorem bnd_sees : ∀ {ops : List UaT} {v : SeB} {k : Nat}, BndB v k → BndB (seesB v ops) (k + ops.length)
  | [], _, _, h => h
  | o :: r, v, k, h => by
    have := bnd_sees (ops := r) (bnd_see h o)
    rw [List.length_cons, show k + (r.length + 1) = k + 1 + r.length by omega]
    exact this
theorem bnd_0 (ops : List UaT) : BndB (seesB v0B ops) ops.length := by
  have h : BndB v0B 0 := ⟨Nat.le_refl _, Nat.le_refl _, Nat.le_refl _, Nat.le_refl _, Nat.le_refl _⟩
  have := bnd_sees (ops := ops) h
  rwa [Nat.zero_add] at this
set_option maxHeartbeats 4000000 in
set_option maxRecDepth 100000 in
theorem stream_walk {ad : Option Addr} {cap n : Nat} {ops : List UaT} (w : World) (HA : Hid (shO.At w ad cap ops)) (hm : Hid (ops.length = n)) (hn : n ≤ 1048576) (A B N M l : Nat) (q : Bool) (rd sd inn out : List UInt8) (hA : Hid (rd.length = A)) (hB : Hid (sd.length = B)) (hN : Hid (inn.length = N)) (hM : Hid (out.length = M)) (hAn : A ≤ 1048576) (hBn : B ≤ 1048576) (hNn : N ≤ 16) (hMn : M ≤ 16)
    (HP : Hid (∀ X, Hid (shO.At X ad cap ops) → Calls Try.prog 13 #[.slice ad n cap] X (PlayOut X A B N M l q rd sd inn out)))
    (HT : Hid ((seesB v0B ops).inn = rd ++ inn ∧ (seesB v0B ops).out = sd ++ out ∧ (seesB v0B ops).lost = l)) :
    Calls Try.prog 5 #[.slice ad n cap] w fun e w' => e = .returned (.bool true) ∧ Below w.heap.size w w' := by
  obtain ⟨i0, hi, hz0, hz1, hz2⟩ := info_parts' info_byte
  go_enter Try.func5, Try.ntmps5
  go_upto_region 7 with (first
    | (go_at_call 15; (with_reducible refine (alive16_N _).mono ?_); rintro e w1 ⟨rfl, hb⟩; have B1 := Lib.hid hb; have A1 := Lib.hid (HA.out.step hb); clear hb)
    | (go_at_call 13; (with_reducible refine (HP.out _ A1).mono ?_); rintro e w2 ⟨ra, rc, sa, sc, ia, ic, oa, oc, rfl, h1, h2, h3, h4, hb⟩; have bl := below_alloc w2 (.cells #[.slice ia N ic, .slice oa M oc, .int .i64 (l : Nat), .bool q] 24); have bb := pstep hb bl; have B2 := Lib.hid (pstep B1.out bb); have A2 := Lib.hid (A1.out.step bb); have X2 := Lib.hid (heap_alloc_new w2 (.cells #[.slice ia N ic, .slice oa M oc, .int .i64 (l : Nat), .bool q] 24)); have R2 := Lib.hid (h1.step bl); have S2 := Lib.hid (h2.step bl); have I2 := Lib.hid (h3.step bl); have O2 := Lib.hid (h4.step bl); clear h1 h2 h3 h4 hb bl bb)
    | fail)
  clear HP A1 B1
  generalize w2.alloc (.cells #[.slice ia N ic, .slice oa M oc, .int .i64 (l : Nat), .bool q] 24) = w3 at B2 A2 X2 R2 S2 I2 O2 ⊢
  generalize w2.heap.size = U at X2 ⊢
  go_wp2_with fail
  go_loopw [6, 7, 8, 9, 10, 23] (fun xv yv t8 t9 t10 i wr => ∃ (k a b : Nat) (xa : Option Addr) (xc : Nat) (ya : Option Addr) (yc : Nat), k ≤ n ∧ i = .int .i64 k ∧ xv = .slice xa a xc ∧ yv = .slice ya b yc ∧ t8 = .int .i64 ((seesB v0B (ops.take k)).waits : Nat) ∧ t9 = .int .i64 ((seesB v0B (ops.take k)).goes : Nat) ∧ t10 = .int .i64 ((seesB v0B (ops.take k)).lost : Nat) ∧ Hid (DevQ w3 wr (.slice xa a xc) (.slice ya b yc) a b (seesB v0B (ops.take k)).inn (seesB v0B (ops.take k)).out)) (fun _ _ _ _ _ i _ => n - (intOf i).toNat)
  case atStart => exact ⟨0, 0, 0, none, 0, none, 0, Nat.zero_le _, rfl, rfl, rfl, rfl, rfl, rfl, Lib.hid ⟨Below.refl _ _, que_nil _ _ _ _, que_nil _ _ _ _, fun g hg => by cases hg⟩⟩
  case round =>
    obtain ⟨k, a, b, xa, xc, ya, yc, hk, rfl, rfl, rfl, rfl, rfl, rfl, HL⟩ := hrel
    have hbd := bnd_0 (ops.take k)
    rw [List.length_take, hm.out, Nat.min_eq_left hk] at hbd
    by_cases hlt : k < n
    · obtain ⟨o, ho⟩ : ∃ o, ops[k]? = some o := ⟨ops[k]'(by rw [hm.out]; exact hlt), List.getElem?_eq_getElem _⟩
      have HNX := Lib.hid (seesB_next ho v0B)
      obtain ⟨bb, off, rfl, hb, e0, e1⟩ := at_op A2.out ho
      have g0 := (HL.out.b.cell (p := ⟨bb, off + k * 2, none⟩) hb).trans e0
      have g1 := (HL.out.b.cell (p := ⟨bb, off + k * 2 + 1, none⟩) hb).trans e1
      have hbr : bb < wr.heap.size := Nat.lt_of_lt_of_le hb HL.out.b.size
      obtain ⟨v, hv⟩ : ∃ v, seesB v0B (ops.take k) = v := ⟨_, rfl⟩
      rw [hv] at HL HNX hbd ⊢
      obtain ⟨wt, gs, lo, vi, vo⟩ := v
      obtain ⟨kd, by'⟩ := o
      simp only at g0 g1 HL
      have L1 := Lib.hid (HL.out.step (below_alloc wr (.cells #[.int .i64 kd, .int .u8 (ub by')] 26)))
      have hai : a ≤ k := by have h1 := que_len HL.out.i; have h2 := hbd.i; simp only at h2; omega
      have hbo : b ≤ k := by have h1 := que_len HL.out.o; have h2 := hbd.o; simp only at h2; omega
      have hw := hbd.w
      have hg := hbd.g
      have hl := hbd.l
      simp only at hw hg hl
      clear e0 e1 ho hv hbd HL
      by_cases k1 : kd = 1
      · subst k1
        by_cases h16 : wt = 16
        · have h16b : ((wt : Int) == 16) = true := by simp; omega
          have w1' : IntKind.i64.wrap ((lo : Int) + 1) = ((lo + 1 : Nat) : Int) := by rw [IntKind.wrap_i64]; omega
          have HSE : Hid (seeB ⟨wt, gs, lo, vi, vo⟩ ⟨1, by'⟩ = ⟨wt, gs, lo + 1, vi, vo⟩) := Lib.hid (by unfold seeB; rw [if_pos rfl, if_pos h16])
          clear h16
          go_wp2_with fail
          go_roundw
          case rel => exact ⟨k + 1, a, b, xa, xc, ya, yc, by omega, by go_num, rfl, rfl, (by rw [HNX.out, HSE.out] <;> rfl), (by rw [HNX.out, HSE.out] <;> rfl), (by rw [HNX.out, HSE.out] <;> rfl), Lib.hid (by rw [HNX.out, HSE.out]; exact L1.out)⟩
          case measure => simp [intOf]; omega
        · have h16b : ((wt : Int) == 16) = false := by simp; omega
          have w1' : IntKind.i64.wrap ((wt : Int) + 1) = ((wt + 1 : Nat) : Int) := by rw [IntKind.wrap_i64]; omega
          have HSE : Hid (seeB ⟨wt, gs, lo, vi, vo⟩ ⟨1, by'⟩ = ⟨wt + 1, gs, lo, vi ++ [by'], vo⟩) := Lib.hid (by unfold seeB; rw [if_pos rfl, if_neg h16])
          clear h16
          have L2 := Lib.hid (L1.out.step (below_alloc _ (.cells #[.int .u8 (ub by')] 5)))
          have X2' := Lib.hid (byte_lit (wr.alloc (.cells #[.int .i64 1, .int .u8 (ub by')] 26)) by' 1)
          have s2' := L2.out.b.size
          go_wp2_with (first
            | (at_builtin; refine wpList_append_que shB rfl _ _ 22 rfl w3.heap.size 5 i0 _ 1 Try.underlying22 hi hz0 hz1 hz2 rfl (.slice xa a xc) a vi [by'] rfl L2.out.i (some ⟨wr.heap.size + 1, 0, none⟩) 1 1 rfl (Lib.hid rfl) (by have h := X2'.out; simp only [World.size_alloc] at h; exact h) (by unfold maxLen; omega) (by omega) s2' ?_; intro ra9 rc9 w9 own9 grow9 new9; have L9 := Lib.hid (L2.out.putI own9 grow9 (fun g hg => (new9 g hg).imp id (fun e => by rw [e]; exact Nat.le_refl _))); clear own9 grow9 new9)
            | fail)
          go_roundw
          case rel => exact ⟨k + 1, a + 1, b, ra9, rc9, ya, yc, by omega, by go_num, rfl, rfl, (by rw [HNX.out, HSE.out] <;> rfl), (by rw [HNX.out, HSE.out] <;> rfl), (by rw [HNX.out, HSE.out] <;> rfl), Lib.hid (by rw [HNX.out, HSE.out]; exact L9.out)⟩
          case measure => simp [intOf]; omega
      by_cases k2 : kd = 2
      · subst k2
        have w1' : IntKind.i64.wrap ((wt : Int) - 1) = (wt : Int) - 1 := by rw [IntKind.wrap_i64]; omega
        obtain ⟨z, hz⟩ : ∃ z, wt - 1 = z := ⟨_, rfl⟩
        have hmx : max ((wt : Int) - 1) 0 = (z : Int) := by omega
        have HSE : Hid (seeB ⟨wt, gs, lo, vi, vo⟩ ⟨2, by'⟩ = ⟨z, gs, lo, vi, vo⟩) := Lib.hid (by unfold seeB; rw [if_neg (by simp), if_pos rfl, hz])
        clear hz
        go_wp2_with fail
        go_roundw
        case rel => exact ⟨k + 1, a, b, xa, xc, ya, yc, by omega, by go_num, rfl, rfl, (by rw [HNX.out, HSE.out] <;> rfl), (by rw [HNX.out, HSE.out] <;> rfl), (by rw [HNX.out, HSE.out] <;> rfl), Lib.hid (by rw [HNX.out, HSE.out]; exact L1.out)⟩
        case measure => simp [intOf]; omega
      by_cases k3 : kd = 3
      · subst k3
        by_cases h16 : gs < 16
        · have h16b : decide ((gs : Int) < 16) = true := by simp; omega
          have w1' : IntKind.i64.wrap ((gs : Int) + 1) = ((gs + 1 : Nat) : Int) := by rw [IntKind.wrap_i64]; omega
          have HSE : Hid (seeB ⟨wt, gs, lo, vi, vo⟩ ⟨3, by'⟩ = ⟨wt, gs + 1, lo, vi, vo ++ [by']⟩) := Lib.hid (by unfold seeB; rw [if_neg (by simp), if_neg (by simp), if_pos rfl, if_pos h16])
          clear h16
          have L2 := Lib.hid (L1.out.step (below_alloc _ (.cells #[.int .u8 (ub by')] 5)))
          have X2' := Lib.hid (byte_lit (wr.alloc (.cells #[.int .i64 3, .int .u8 (ub by')] 26)) by' 1)
          have s2' := L2.out.b.size
          go_wp2_with (first
            | (at_builtin; refine wpList_append_que shB rfl _ _ 22 rfl w3.heap.size 5 i0 _ 1 Try.underlying22 hi hz0 hz1 hz2 rfl (.slice ya b yc) b vo [by'] rfl L2.out.o (some ⟨wr.heap.size + 1, 0, none⟩) 1 1 rfl (Lib.hid rfl) (by have h := X2'.out; simp only [World.size_alloc] at h; exact h) (by unfold maxLen; omega) (by omega) s2' ?_; intro ra9 rc9 w9 own9 grow9 new9; have L9 := Lib.hid (L2.out.putO own9 grow9 (fun g hg => (new9 g hg).imp id (fun e => by rw [e]; exact Nat.le_refl _))); clear own9 grow9 new9)
            | fail)
          go_roundw
          case rel => exact ⟨k + 1, a, b + 1, xa, xc, ra9, rc9, by omega, by go_num, rfl, rfl, (by rw [HNX.out, HSE.out] <;> rfl), (by rw [HNX.out, HSE.out] <;> rfl), (by rw [HNX.out, HSE.out] <;> rfl), Lib.hid (by rw [HNX.out, HSE.out]; exact L9.out)⟩
          case measure => simp [intOf]; omega
        · have h16b : decide ((gs : Int) < 16) = false := by simp; omega
          have HSE : Hid (seeB ⟨wt, gs, lo, vi, vo⟩ ⟨3, by'⟩ = ⟨wt, gs, lo, vi, vo⟩) := Lib.hid (by unfold seeB; rw [if_neg (by simp), if_neg (by simp), if_pos rfl, if_neg h16])
          clear h16
          go_wp2_with fail
          go_roundw
          case rel => exact ⟨k + 1, a, b, xa, xc, ya, yc, by omega, by go_num, rfl, rfl, (by rw [HNX.out, HSE.out] <;> rfl), (by rw [HNX.out, HSE.out] <;> rfl), (by rw [HNX.out, HSE.out] <;> rfl), Lib.hid (by rw [HNX.out, HSE.out]; exact L1.out)⟩
          case measure => simp [intOf]; omega
      by_cases k4 : kd = 4
      · subst k4
        have w1' : IntKind.i64.wrap ((gs : Int) - 1) = (gs : Int) - 1 := by rw [IntKind.wrap_i64]; omega
        obtain ⟨z, hz⟩ : ∃ z, gs - 1 = z := ⟨_, rfl⟩
        have hmx : max ((gs : Int) - 1) 0 = (z : Int) := by omega
        have HSE : Hid (seeB ⟨wt, gs, lo, vi, vo⟩ ⟨4, by'⟩ = ⟨wt, z, lo, vi, vo⟩) := Lib.hid (by unfold seeB; rw [if_neg (by simp), if_neg (by simp), if_neg (by simp), if_pos rfl, hz])
        clear hz
        go_wp2_with fail
        go_roundw
        case rel => exact ⟨k + 1, a, b, xa, xc, ya, yc, by omega, by go_num, rfl, rfl, (by rw [HNX.out, HSE.out] <;> rfl), (by rw [HNX.out, HSE.out] <;> rfl), (by rw [HNX.out, HSE.out] <;> rfl), Lib.hid (by rw [HNX.out, HSE.out]; exact L1.out)⟩
        case measure => simp [intOf]; omega
      · have g1' : (kd == 1) = false := by simpa using k1
        have g2' : (kd == 2) = false := by simpa using k2
        have g3' : (kd == 3) = false := by simpa using k3
        have g4' : (kd == 4) = false := by simpa using k4
        have HSE : Hid (seeB ⟨wt, gs, lo, vi, vo⟩ ⟨kd, by'⟩ = ⟨wt, gs, lo, vi, vo⟩) := Lib.hid (by unfold seeB; rw [if_neg k1, if_neg k2, if_neg k3, if_neg k4])
        clear k1 k2 k3 k4
        go_wp2_with fail
        go_roundw
        case rel => exact ⟨k + 1, a, b, xa, xc, ya, yc, by omega, by go_num, rfl, rfl, (by rw [HNX.out, HSE.out] <;> rfl), (by rw [HNX.out, HSE.out] <;> rfl), (by rw [HNX.out, HSE.out] <;> rfl), Lib.hid (by rw [HNX.out, HSE.out]; exact L1.out)⟩
        case measure => simp [intOf]; omega
    · obtain rfl : k = n := by omega
      have e : ops.take k = ops := by rw [← hm.out, List.take_length]
      rw [e] at HL ⊢
      obtain ⟨v, hv⟩ : ∃ v, seesB v0B ops = v := ⟨_, rfl⟩
      rw [hv] at HL HT ⊢
      obtain ⟨wt, gs, lo, vi, vo⟩ := v
      obtain ⟨t1, t2, t3⟩ := HT.out
      simp only at t1 t2 t3 HL
      subst t1 t2 t3
      clear HT hv e hlt hk hbd
      obtain rfl : a = A + N := by have h := que_len HL.out.i; rw [List.length_append, hA.out, hN.out] at h; omega
      obtain rfl : b = B + M := by have h := que_len HL.out.o; rw [List.length_append, hB.out, hM.out] at h; omega
      have PS : SuS w U #[.slice ia N ic, .slice oa M oc, .int .i64 (lo : Nat), .bool q] ra rc sa sc ia ic oa oc xa xc ya yc rd sd inn out wr := ⟨pstep B2.out HL.out.b, heap_step X2.out HL.out.b, R2.out.step HL.out.b, S2.out.step HL.out.b, I2.out.step HL.out.b, O2.out.step HL.out.b, que_at HL.out.i, que_at HL.out.o⟩
      have HPS := Lib.hid PS
      have PSd := PS.drew
      have HX1 : Hid ((rd ++ inn).length = A + N) := Lib.hid (by rw [List.length_append, hA.out, hN.out])
      have HX2 : Hid ((sd ++ out).length = B + M) := Lib.hid (by rw [List.length_append, hB.out, hM.out])
      have hN2 : N ≤ 1048576 := by omega
      have hM2 : M ≤ 1048576 := by omega
      have sl : ∀ l, (strB l).toList = l := strB_list
      clear PS HL B2 A2 X2 R2 S2 I2 O2
      go_wp2_with fail
      refine wp_region_noPanic ?_
      refine wp_region_held_drew (S := fun w' => SuS w U #[.slice ia N ic, .slice oa M oc, .int .i64 (lo : Nat), .bool q] ra rc sa sc ia ic oa oc xa xc ya yc rd sd inn out w' ∧ (w'.cell? ⟨U, 0, none⟩ = some (.slice ia N ic) ∧ w'.cell? ⟨U, 1, none⟩ = some (.slice oa M oc) ∧ w'.cell? ⟨U, 2, none⟩ = some (.int .i64 (lo : Nat)) ∧ w'.cell? ⟨U, 3, none⟩ = some (.bool q)) ∧ (convert 22 9 (.slice xa (A + N) xc)).run Try.prog w' = .ok (.string (strB (rd ++ inn))) w' ∧ (convert 22 9 (.slice ya (B + M) yc)).run Try.prog w' = .ok (.string (strB (sd ++ out))) w') (by kernel_rfl) (PSd.all HX1 HX2) (fun hHeld => ?_)
      refine wpAnyH_take (i := 0) (v := ?_) rfl (by kernel_rfl) (by kernel_rfl) (by kernel_rfl) (fun _ _ _ h => h) (Or.inl ⟨by rfl, ?_⟩) (by assumption) ?_
      rotate_left
      · (intro wz hSw; (try dsimp only at hSw); go_simp; try with_reducible rfl)
      try simp only [List.getElem_toArray, List.getElem_cons_zero, Act.put, List.setIfInBounds_toArray, List.set_cons_zero, List.set_cons_succ]
      refine wpAnyH_take (i := 1) (v := ?_) rfl (by kernel_rfl) (by kernel_rfl) (by kernel_rfl) (fun _ _ _ h => h) (Or.inl ⟨by rfl, ?_⟩) (by assumption) ?_
      rotate_left
      · (intro wz hSw; (try dsimp only at hSw); go_simp; try with_reducible rfl)
      try simp only [List.getElem_toArray, List.getElem_cons_zero, List.getElem_cons_succ, Act.put, List.setIfInBounds_toArray, List.set_cons_zero, List.set_cons_succ]
      refine wpAnyH_take (i := 2) (v := ?_) rfl (by kernel_rfl) (by kernel_rfl) (by kernel_rfl) (fun _ _ _ h => h) (Or.inl ⟨by rfl, ?_⟩) (by assumption) ?_
      rotate_left
      · (intro wz hSw; (try dsimp only at hSw); go_simp; try with_reducible rfl)
      try simp only [List.getElem_toArray, List.getElem_cons_zero, List.getElem_cons_succ, Act.put, List.setIfInBounds_toArray, List.set_cons_zero, List.set_cons_succ]
      refine wpAnyH_take (i := 6) (v := ?_) rfl (by kernel_rfl) (by kernel_rfl) (by kernel_rfl) (fun _ _ _ h => h) (Or.inl ⟨by rfl, ?_⟩) (by assumption) ?_
      rotate_left
      · (intro wz hSw; (try dsimp only at hSw); go_simp; try with_reducible rfl)
      try simp only [List.getElem_toArray, List.getElem_cons_zero, List.getElem_cons_succ, Act.put, List.setIfInBounds_toArray, List.set_cons_zero, List.set_cons_succ]
      refine wpAnyH_take (i := 7) (v := ?_) rfl (by kernel_rfl) (by kernel_rfl) (by kernel_rfl) (fun _ _ _ h => h) (Or.inl ⟨by rfl, ?_⟩) (by assumption) ?_
      rotate_left
      · (intro wz hSw; (try dsimp only at hSw); go_simp; try with_reducible rfl)
      try simp only [List.getElem_toArray, List.getElem_cons_zero, List.getElem_cons_succ, Act.put, List.setIfInBounds_toArray, List.set_cons_zero, List.set_cons_succ]
      refine wpAnyH_ready (rs := [3]) (by kernel_rfl) (by simp) ?_
      refine AllReadyH.cons rfl (fun K hK => ?_) AllReadyH.nil
      go_simp
      refine hK.out _ _ (((HPS.out.alloc _).drew).all HX1 HX2) (fun hHeld => ?_)
      try simp only [List.getElem_toArray, List.getElem_cons_zero, List.getElem_cons_succ, Act.put, List.setIfInBounds_toArray, List.set_cons_zero, List.set_cons_succ]
      refine wpAnyH_ready (rs := [4]) (by kernel_rfl) (by simp) ?_
      refine AllReadyH.cons rfl (fun K hK => ?_) AllReadyH.nil
      go_simp
      go_at_call 16
      refine (su_cat1 ((HPS.out.alloc _).drew) wr.heap.size (by rw [drew_heap]; exact heap_alloc_new wr _) hA hN hAn hN2).mono ?_
      rintro e w7 ⟨ta, tc, rfl, t7, c7⟩
      go_wp2_with fail
      refine hK.out _ _ (t7.all HX1 HX2) (fun hHeld => ?_)
      try simp only [List.getElem_toArray, List.getElem_cons_zero, List.getElem_cons_succ, Act.put, List.setIfInBounds_toArray, List.set_cons_zero, List.set_cons_succ]
      refine wpAnyH_more (S2 := fun w' => (SuS w U #[.slice ia N ic, .slice oa M oc, .int .i64 (lo : Nat), .bool q] ra rc sa sc ia ic oa oc xa xc ya yc rd sd inn out w' ∧ (w'.cell? ⟨U, 0, none⟩ = some (.slice ia N ic) ∧ w'.cell? ⟨U, 1, none⟩ = some (.slice oa M oc) ∧ w'.cell? ⟨U, 2, none⟩ = some (.int .i64 (lo : Nat)) ∧ w'.cell? ⟨U, 3, none⟩ = some (.bool q)) ∧ (convert 22 9 (.slice xa (A + N) xc)).run Try.prog w' = .ok (.string (strB (rd ++ inn))) w' ∧ (convert 22 9 (.slice ya (B + M) yc)).run Try.prog w' = .ok (.string (strB (sd ++ out))) w') ∧ (convert 22 9 (.slice ta (A + N) tc)).run Try.prog w' = .ok (.string (strB (rd ++ inn))) w') (fun _ h => h.1) _ _ _ _ ?_
      have hH2 := And.intro hHeld (conv_at c7 HX1.out)
      refine wpAnyH_take (i := 5) (v := ?_) rfl (by kernel_rfl) (by kernel_rfl) (by kernel_rfl) (fun _ _ _ h => h) (Or.inl ⟨by rfl, ?_⟩) (by assumption) ?_
      rotate_left
      · (intro wz hSw; (try dsimp only at hSw); go_simp; try with_reducible rfl)
      try simp only [List.getElem_toArray, List.getElem_cons_zero, List.getElem_cons_succ, Act.put, List.setIfInBounds_toArray, List.set_cons_zero, List.set_cons_succ]
      refine wpAnyH_take (i := 8) (v := ?_) rfl (by kernel_rfl) (by kernel_rfl) (by kernel_rfl) (fun _ _ _ h => h) (Or.inl ⟨by rfl, ?_⟩) (by assumption) ?_
      rotate_left
      · (intro wz hSw; (try dsimp only at hSw); go_simp; try with_reducible rfl)
      try simp only [List.getElem_toArray, List.getElem_cons_zero, List.getElem_cons_succ, Act.put, List.setIfInBounds_toArray, List.set_cons_zero, List.set_cons_succ]
      refine wpAnyH_take (i := 9) (v := ?_) rfl (by kernel_rfl) (by kernel_rfl) (by kernel_rfl) (fun _ _ _ h => h) (Or.inl ⟨by rfl, ?_⟩) (by assumption) ?_
      rotate_left
      · (intro wz hSw; (try dsimp only at hSw); go_simp; try with_reducible rfl)
      try simp only [List.getElem_toArray, List.getElem_cons_zero, List.getElem_cons_succ, Act.put, List.setIfInBounds_toArray, List.set_cons_zero, List.set_cons_succ]
      refine wpAnyH_take (i := 10) (v := ?_) rfl (by kernel_rfl) (by kernel_rfl) (by kernel_rfl) (fun _ _ _ h => h) (Or.inl ⟨by rfl, ?_⟩) (by assumption) ?_
      rotate_left
      · (intro wz hSw; (try dsimp only at hSw); go_simp; try with_reducible rfl)
      try simp only [List.getElem_toArray, List.getElem_cons_zero, List.getElem_cons_succ, Act.put, List.setIfInBounds_toArray, List.set_cons_zero, List.set_cons_succ]
      refine wpAnyH_take (i := 11) (v := ?_) rfl (by kernel_rfl) (by kernel_rfl) (by kernel_rfl) (fun _ _ _ h => h) (Or.inl ⟨by rfl, ?_⟩) (by assumption) ?_
      rotate_left
      · (intro wz hSw; (try dsimp only at hSw); go_simp; try with_reducible rfl)
      try simp only [List.getElem_toArray, List.getElem_cons_zero, List.getElem_cons_succ, Act.put, List.setIfInBounds_toArray, List.set_cons_zero, List.set_cons_succ]
      refine wpAnyH_take (i := 12) (v := ?_) rfl (by kernel_rfl) (by kernel_rfl) (by kernel_rfl) (fun _ _ _ h => h) (Or.inl ⟨by rfl, ?_⟩) (by assumption) ?_
      rotate_left
      · (intro wz hSw; (try dsimp only at hSw); go_simp; try with_reducible rfl)
      try simp only [List.getElem_toArray, List.getElem_cons_zero, List.getElem_cons_succ, Act.put, List.setIfInBounds_toArray, List.set_cons_zero, List.set_cons_succ]
      refine wpAnyH_take (i := 16) (v := ?_) rfl (by kernel_rfl) (by kernel_rfl) (by kernel_rfl) (fun _ _ _ h => h) (Or.inl ⟨by rfl, ?_⟩) (by assumption) ?_
      rotate_left
      · (intro wz hSw; (try dsimp only at hSw); go_simp; try with_reducible rfl)
      try simp only [List.getElem_toArray, List.getElem_cons_zero, List.getElem_cons_succ, Act.put, List.setIfInBounds_toArray, List.set_cons_zero, List.set_cons_succ]
      refine wpAnyH_take (i := 17) (v := ?_) rfl (by kernel_rfl) (by kernel_rfl) (by kernel_rfl) (fun _ _ _ h => h) (Or.inl ⟨by rfl, ?_⟩) (by assumption) ?_
      rotate_left
      · (intro wz hSw; (try dsimp only at hSw); go_simp; try with_reducible rfl)
      try simp only [List.getElem_toArray, List.getElem_cons_zero, List.getElem_cons_succ, Act.put, List.setIfInBounds_toArray, List.set_cons_zero, List.set_cons_succ]
      refine wpAnyH_ready (rs := [13]) (by kernel_rfl) (by simp) ?_
      refine AllReadyH.cons rfl (fun K hK => ?_) AllReadyH.nil
      go_simp
      refine hK.out _ _ (⟨(t7.alloc _).all HX1 HX2, conv_at (c7.step (below_alloc _ _)) HX1.out⟩) (fun hHeld => ?_)
      try simp only [List.getElem_toArray, List.getElem_cons_zero, List.getElem_cons_succ, Act.put, List.setIfInBounds_toArray, List.set_cons_zero, List.set_cons_succ]
      refine wpAnyH_ready (rs := [14]) (by kernel_rfl) (by simp) ?_
      refine AllReadyH.cons rfl (fun K hK => ?_) AllReadyH.nil
      go_simp
      go_at_call 16
      refine (su_cat2 (t7.alloc _) w7.heap.size (heap_alloc_new w7 _) hB hM hBn hM2).mono ?_
      rintro e w8 ⟨ua, uc, rfl, t8, c8, b8⟩
      go_wp2_with fail
      refine hK.out _ _ (⟨t8.all HX1 HX2, conv_at ((c7.step (below_alloc _ _)).step b8) HX1.out⟩) (fun hHeld => ?_)
      try simp only [List.getElem_toArray, List.getElem_cons_zero, List.getElem_cons_succ, Act.put, List.setIfInBounds_toArray, List.set_cons_zero, List.set_cons_succ]
      refine wpAnyH_more (S2 := fun w' => ((SuS w U #[.slice ia N ic, .slice oa M oc, .int .i64 (lo : Nat), .bool q] ra rc sa sc ia ic oa oc xa xc ya yc rd sd inn out w' ∧ (w'.cell? ⟨U, 0, none⟩ = some (.slice ia N ic) ∧ w'.cell? ⟨U, 1, none⟩ = some (.slice oa M oc) ∧ w'.cell? ⟨U, 2, none⟩ = some (.int .i64 (lo : Nat)) ∧ w'.cell? ⟨U, 3, none⟩ = some (.bool q)) ∧ (convert 22 9 (.slice xa (A + N) xc)).run Try.prog w' = .ok (.string (strB (rd ++ inn))) w' ∧ (convert 22 9 (.slice ya (B + M) yc)).run Try.prog w' = .ok (.string (strB (sd ++ out))) w') ∧ (convert 22 9 (.slice ta (A + N) tc)).run Try.prog w' = .ok (.string (strB (rd ++ inn))) w') ∧ (convert 22 9 (.slice ua (B + M) uc)).run Try.prog w' = .ok (.string (strB (sd ++ out))) w') (fun _ h => h.1) _ _ _ _ ?_
      have hH3 := And.intro hHeld (conv_at c8 HX2.out)
      refine wpAnyH_take (i := 15) (v := ?_) rfl (by kernel_rfl) (by kernel_rfl) (by kernel_rfl) (fun _ _ _ h => h) (Or.inl ⟨by rfl, ?_⟩) (by assumption) ?_
      rotate_left
      · (intro wz hSw; (try dsimp only at hSw); go_simp; try with_reducible rfl)
      try simp only [List.getElem_toArray, List.getElem_cons_zero, List.getElem_cons_succ, Act.put, List.setIfInBounds_toArray, List.set_cons_zero, List.set_cons_succ]
      refine wpAnyH_take (i := 18) (v := ?_) rfl (by kernel_rfl) (by kernel_rfl) (by kernel_rfl) (fun _ _ _ h => h) (Or.inl ⟨by rfl, ?_⟩) (by assumption) ?_
      rotate_left
      · (intro wz hSw; (try dsimp only at hSw); go_simp; try with_reducible rfl)
      try simp only [List.getElem_toArray, List.getElem_cons_zero, List.getElem_cons_succ, Act.put, List.setIfInBounds_toArray, List.set_cons_zero, List.set_cons_succ]
      refine wpAnyH_take (i := 19) (v := ?_) rfl (by kernel_rfl) (by kernel_rfl) (by kernel_rfl) (fun _ _ _ h => h) (Or.inl ⟨by rfl, ?_⟩) (by assumption) ?_
      rotate_left
      · (intro wz hSw; (try dsimp only at hSw); go_simp; try with_reducible rfl)
      try simp only [List.getElem_toArray, List.getElem_cons_zero, List.getElem_cons_succ, Act.put, List.setIfInBounds_toArray, List.set_cons_zero, List.set_cons_succ]
      refine wpAnyH_take (i := 20) (v := ?_) rfl (by kernel_rfl) (by kernel_rfl) (by kernel_rfl) (fun _ _ _ h => h) (Or.inl ⟨by rfl, ?_⟩) (by assumption) ?_
      rotate_left
      · (intro wz hSw; (try dsimp only at hSw); go_simp; try with_reducible rfl)
      try simp only [List.getElem_toArray, List.getElem_cons_zero, List.getElem_cons_succ, Act.put, List.setIfInBounds_toArray, List.set_cons_zero, List.set_cons_succ]
      refine wpAnyH_take (i := 21) (v := ?_) rfl (by kernel_rfl) (by kernel_rfl) (by kernel_rfl) (fun _ _ _ h => h) (Or.inl ⟨by rfl, ?_⟩) (by assumption) ?_
      rotate_left
      · (intro wz hSw; (try dsimp only at hSw); go_simp; try with_reducible rfl)
      try simp only [List.getElem_toArray, List.getElem_cons_zero, List.getElem_cons_succ, Act.put, List.setIfInBounds_toArray, List.set_cons_zero, List.set_cons_succ]
      refine wpAnyH_take (i := 22) (v := ?_) rfl (by kernel_rfl) (by kernel_rfl) (by kernel_rfl) (fun _ _ _ h => h) (Or.inl ⟨by rfl, ?_⟩) (by assumption) ?_
      rotate_left
      · (intro wz hSw; (try dsimp only at hSw); go_simp; try with_reducible rfl)
      try simp only [List.getElem_toArray, List.getElem_cons_zero, List.getElem_cons_succ, Act.put, List.setIfInBounds_toArray, List.set_cons_zero, List.set_cons_succ]
      refine wpAnyH_take (i := 23) (v := ?_) rfl (by kernel_rfl) (by kernel_rfl) (by kernel_rfl) (fun _ _ _ h => h) (Or.inl ⟨by rfl, ?_⟩) (by assumption) ?_
      rotate_left
      · (intro wz hSw; (try dsimp only at hSw); go_simp; try with_reducible rfl)
      try simp only [List.getElem_toArray, List.getElem_cons_zero, List.getElem_cons_succ, Act.put, List.setIfInBounds_toArray, List.set_cons_zero, List.set_cons_succ]
      refine wpAnyH_take (i := 24) (v := ?_) rfl (by kernel_rfl) (by kernel_rfl) (by kernel_rfl) (fun _ _ _ h => h) (Or.inl ⟨by rfl, ?_⟩) (by assumption) ?_
      rotate_left
      · (intro wz hSw; (try dsimp only at hSw); go_simp; try with_reducible rfl)
      try simp only [List.getElem_toArray, List.getElem_cons_zero, List.getElem_cons_succ, Act.put, List.setIfInBounds_toArray, List.set_cons_zero, List.set_cons_succ]
      refine wpAnyH_take (i := 25) (v := ?_) rfl (by kernel_rfl) (by kernel_rfl) (by kernel_rfl) (fun _ _ _ h => h) (Or.inl ⟨by rfl, ?_⟩) (by assumption) ?_
      rotate_left
      · (intro wz hSw; (try dsimp only at hSw); go_simp; try with_reducible rfl)
      try simp only [List.getElem_toArray, List.getElem_cons_zero, List.getElem_cons_succ, Act.put, List.setIfInBounds_toArray, List.set_cons_zero, List.set_cons_succ]
      refine wpAnyH_take (i := 26) (v := ?_) rfl (by kernel_rfl) (by kernel_rfl) (by kernel_rfl) (fun _ _ _ h => h) (Or.inl ⟨by rfl, ?_⟩) (by assumption) ?_
      rotate_left
      · (intro wz hSw; (try dsimp only at hSw); go_simp; try with_reducible rfl)
      try simp only [List.getElem_toArray, List.getElem_cons_zero, List.getElem_cons_succ, Act.put, List.setIfInBounds_toArray, List.set_cons_zero, List.set_cons_succ]
      refine wpAnyH_done (by kernel_rfl) ?_ _
      refine NoPanic.normal ?_
      go_wp2_with fail
      go_ret
      exact ⟨rfl, t8.b⟩
theorem uartStream_walk (v : Value) (w : World) (h : ArgUos w v) (u : lenOf v ≤ 1048576) : Calls Try.prog 5 #[v] w fun e w' => e = .returned (.bool true) ∧ Below w.heap.size w w' := by
  obtain ⟨ad, cap, ops, rfl, hA, _, _⟩ := h
  simp only [lenOf] at u
  have hg := good_runB (ops := ops) good_newB
  have h1 := reads_len ops newB
  have h2 := sents_len ops newB
  have t0 : TieB newB [] [] v0B := ⟨rfl, rfl, rfl, rfl, rfl⟩
  have t := stream_B (ops := ops) good_newB t0 (by unfold mxB; simp only [newB]; omega)
  rw [List.nil_append, List.nil_append] at t
  exact stream_walk w (Lib.hid hA) (Lib.hid rfl) u _ _ _ _ _ _ _ _ _ _ (Lib.hid rfl) (Lib.hid rfl) (Lib.hid rfl) (Lib.hid rfl) (by omega) (by omega) hg.inn hg.out
    (Lib.hid fun X HX => play_W X HX (Lib.hid rfl) (by omega) _ _ _ (Lib.hid rfl) (Lib.hid rfl) (Lib.hid rfl) _ _ _ _ (Lib.hid rfl) (Lib.hid rfl) (Lib.hid rfl) (Lib.hid rfl))
    (Lib.hid ⟨t.i.symm, t.o.symm, t.l⟩)
end Go.Proofs.Ytalcfbdnnlapnaa
