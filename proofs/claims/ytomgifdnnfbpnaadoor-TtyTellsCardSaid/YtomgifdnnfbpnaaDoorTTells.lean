/- TtyTells: the walk. -/
import Derived.Test.YtomgifdnnfbpnaaDoorTyL
import Derived.Test.YtomgifdnnfbpnaaDoorTyO
import Derived.Deep.RegionHeld3
namespace Go.Proofs.YtomgifdnnfbpnaaDoor
open Go.RowKit

/-- What is in memory behind the four calls: five boxes, what they hold; what was read. -/
structure Tl (w W : World) (A1 A2 A3 A4 n m N M N2 M2 K : Nat) (la ea aa ab ba bb ca cb da db pa qa : Option Addr) (lc ec ac ad bc bd cc cd dc dd pc qc : Nat) (s sk sr : StQ) (g : List UInt8) : Prop where
  b : Below w.heap.size w W
  h0 : W.heap[w.heap.size]? = some (.cells #[.slice la n lc, .slice ea m ec] tT (0, 0))
  h1 : W.heap[A1]? = some (.cells #[.slice aa N ac, .slice ab M ad] tT (0, 0))
  h2 : W.heap[A2]? = some (.cells #[.slice ba N bc, .slice bb M bd] tT (0, 0))
  h3 : W.heap[A3]? = some (.cells #[.slice ca N2 cc, .slice cb M2 cd] tT (0, 0))
  h4 : W.heap[A4]? = some (.cells #[.slice da N2 dc, .slice db M2 dd] tT (0, 0))
  t1 : LnsAt W la lc s.lines
  a1 : LnsAt W aa ac sk.lines
  a2 : shB.At W ab ad sk.edit
  b1 : LnsAt W ba bc sk.lines
  b2 : shB.At W bb bd sk.edit
  c1 : LnsAt W ca cc sr.lines
  c2 : shB.At W cb cd sr.edit
  d1 : LnsAt W da dc sr.lines
  d2 : shB.At W db dd sr.edit
  p : shB.At W pa pc g
  q : shB.At W qa qc g
section
variable {w W : World} {A1 A2 A3 A4 n m N M N2 M2 K : Nat} {la ea aa ab ba bb ca cb da db pa qa : Option Addr} {lc ec ac ad bc bd cc cd dc dd pc qc : Nat} {s sk sr : StQ} {g : List UInt8}
theorem Tl.step {W' : World} (h : Tl w W A1 A2 A3 A4 n m N M N2 M2 K la ea aa ab ba bb ca cb da db pa qa lc ec ac ad bc bd cc cd dc dd pc qc s sk sr g) (hb : Below W.heap.size W W') : Tl w W' A1 A2 A3 A4 n m N M N2 M2 K la ea aa ab ba bb ca cb da db pa qa lc ec ac ad bc bd cc cd dc dd pc qc s sk sr g :=
  ⟨pstep h.b hb, heap_step h.h0 hb, heap_step h.h1 hb, heap_step h.h2 hb, heap_step h.h3 hb, heap_step h.h4 hb, h.t1.step hb, h.a1.step hb, h.a2.step hb, h.b1.step hb, h.b2.step hb, h.c1.step hb, h.c2.step hb, h.d1.step hb, h.d2.step hb, h.p.step hb, h.q.step hb⟩
theorem Tl.all (hk : Hid (g.length = K)) (h : Tl w W A1 A2 A3 A4 n m N M N2 M2 K la ea aa ab ba bb ca cb da db pa qa lc ec ac ad bc bd cc cd dc dd pc qc s sk sr g) : Tl w W A1 A2 A3 A4 n m N M N2 M2 K la ea aa ab ba bb ca cb da db pa qa lc ec ac ad bc bd cc cd dc dd pc qc s sk sr g ∧ (W.cell? ⟨w.heap.size, 0, none⟩ = some (.slice la n lc) ∧ W.cell? ⟨w.heap.size, 1, none⟩ = some (.slice ea m ec)) ∧ (W.cell? ⟨A1, 0, none⟩ = some (.slice aa N ac) ∧ W.cell? ⟨A1, 1, none⟩ = some (.slice ab M ad)) ∧ (W.cell? ⟨A2, 0, none⟩ = some (.slice ba N bc) ∧ W.cell? ⟨A2, 1, none⟩ = some (.slice bb M bd)) ∧ (W.cell? ⟨A3, 0, none⟩ = some (.slice ca N2 cc) ∧ W.cell? ⟨A3, 1, none⟩ = some (.slice cb M2 cd)) ∧ (W.cell? ⟨A4, 0, none⟩ = some (.slice da N2 dc) ∧ W.cell? ⟨A4, 1, none⟩ = some (.slice db M2 dd)) ∧ (convert 23 9 (.slice pa K pc)).run Tryd.prog W = .ok (.string (strB g)) W ∧ (convert 23 9 (.slice qa K qc)).run Tryd.prog W = .ok (.string (strB g)) W :=
  ⟨h, pair_at h.h0, pair_at h.h1, pair_at h.h2, pair_at h.h3, pair_at h.h4, conv_at h.p hk.out, conv_at h.q hk.out⟩
theorem tl_right (r : Bool) (hn : Hid (s.lines.length = n)) (hr : Hid (rgtQ s.lines n m = r)) (h : Tl w W A1 A2 A3 A4 n m N M N2 M2 K la ea aa ab ba bb ca cb da db pa qa lc ec ac ad bc bd cc cd dc dd pc qc s sk sr g) : Calls Tryd.prog 13 #[.agg #[.slice la n lc, .slice ea m ec]] W fun e w' => e = .returned (.bool r) ∧ Tl w w' A1 A2 A3 A4 n m N M N2 M2 K la ea aa ab ba bb ca cb da db pa qa lc ec ac ad bc bd cc cd dc dd pc qc s sk sr g :=
  (right_W _ (Lib.hid h.t1) hn r hr).mono fun _ _ ⟨e, hb⟩ => ⟨e, h.step hb⟩
theorem tl_qright (r : Bool) (hn : Hid (s.lines.length = n)) (hn63 : n ≤ 9223372036854775807) (hr : Hid (rgtQ s.lines n m = r)) (h : Tl w W A1 A2 A3 A4 n m N M N2 M2 K la ea aa ab ba bb ca cb da db pa qa lc ec ac ad bc bd cc cd dc dd pc qc s sk sr g) : Calls Tryd.prog 14 #[.agg #[.slice la n lc, .slice ea m ec]] W fun e w' => e = .returned (.bool r) ∧ Tl w w' A1 A2 A3 A4 n m N M N2 M2 K la ea aa ab ba bb ca cb da db pa qa lc ec ac ad bc bd cc cd dc dd pc qc s sk sr g :=
  (qright_W _ (Lib.hid h.t1) hn hn63 r hr).mono fun _ _ ⟨e, hb⟩ => ⟨e, h.step hb⟩
theorem tl_same1 (h1 : Hid (sk.lines.length = N)) (h2 : Hid (sk.edit.length = M)) (h3 : N ≤ 400) (h : Tl w W A1 A2 A3 A4 n m N M N2 M2 K la ea aa ab ba bb ca cb da db pa qa lc ec ac ad bc bd cc cd dc dd pc qc s sk sr g) : Calls Tryd.prog 15 #[.agg #[.slice aa N ac, .slice ab M ad], .agg #[.slice ba N bc, .slice bb M bd]] W fun e w' => e = .returned (.bool true) ∧ Tl w w' A1 A2 A3 A4 n m N M N2 M2 K la ea aa ab ba bb ca cb da db pa qa lc ec ac ad bc bd cc cd dc dd pc qc s sk sr g :=
  (same_T _ h1 h2 (by omega) (Lib.hid h.a1) (Lib.hid h.a2) (Lib.hid h.b1) (Lib.hid h.b2)).mono fun _ _ ⟨e, hb⟩ => ⟨e, h.step hb⟩
theorem tl_same2 (h1 : Hid (sr.lines.length = N2)) (h2 : Hid (sr.edit.length = M2)) (h3 : N2 ≤ 400) (h : Tl w W A1 A2 A3 A4 n m N M N2 M2 K la ea aa ab ba bb ca cb da db pa qa lc ec ac ad bc bd cc cd dc dd pc qc s sk sr g) : Calls Tryd.prog 15 #[.agg #[.slice ca N2 cc, .slice cb M2 cd], .agg #[.slice da N2 dc, .slice db M2 dd]] W fun e w' => e = .returned (.bool true) ∧ Tl w w' A1 A2 A3 A4 n m N M N2 M2 K la ea aa ab ba bb ca cb da db pa qa lc ec ac ad bc bd cc cd dc dd pc qc s sk sr g :=
  (same_T _ h1 h2 (by omega) (Lib.hid h.c1) (Lib.hid h.c2) (Lib.hid h.d1) (Lib.hid h.d2)).mono fun _ _ ⟨e, hb⟩ => ⟨e, h.step hb⟩
end
set_option maxHeartbeats 8000000 in
set_option maxRecDepth 100000 in
theorem tells_walk {la ea : Option Addr} {n lc m ec : Nat} {s : StQ} (w : World) (b : UInt8) (most : Int) (HL : Hid (LnsAt w la lc s.lines)) (hn : Hid (s.lines.length = n)) (HE : Hid (shB.At w ea ec s.edit)) (hn63 : n ≤ 9223372036854775807)
    (N M N2 M2 K : Nat) (sk sr : StQ) (g : List UInt8) (xk xr : Int)
    (HK : Hid (∀ W, Hid (LnsAt W la lc s.lines) → Hid (shB.At W ea ec s.edit) → Calls Tryd.prog 9 #[.agg #[.slice la n lc, .slice ea m ec], .int .u8 (ub b)] W (KeyOut W N M sk xk)))
    (HQ : Hid (∀ W, Hid (LnsAt W la lc s.lines) → Hid (shB.At W ea ec s.edit) → Calls Tryd.prog 10 #[.agg #[.slice la n lc, .slice ea m ec], .int .u8 (ub b)] W (KeyOut W N M sk xk)))
    (HR : Hid (∀ W, Hid (LnsAt W la lc s.lines) → Hid (shB.At W ea ec s.edit) → Calls Tryd.prog 11 #[.agg #[.slice la n lc, .slice ea m ec], .int .i64 most] W (ReadOut W N2 M2 K sr g xr)))
    (HS : Hid (∀ W, Hid (LnsAt W la lc s.lines) → Hid (shB.At W ea ec s.edit) → Calls Tryd.prog 12 #[.agg #[.slice la n lc, .slice ea m ec], .int .i64 most] W (ReadOut W N2 M2 K sr g xr)))
    (r : Bool) (hr : Hid (rgtQ s.lines n m = r)) (h1 : Hid (sk.lines.length = N)) (h2 : Hid (sk.edit.length = M)) (h3 : N ≤ 400) (h4 : Hid (sr.lines.length = N2)) (h5 : Hid (sr.edit.length = M2)) (h6 : N2 ≤ 400) (hK : Hid (g.length = K)) :
    Calls Tryd.prog 3 #[.agg #[.slice la n lc, .slice ea m ec], .int .u8 (ub b), .int .i64 most] w fun e w' => e = .returned (.bool true) ∧ Below w.heap.size w w' := by
  have B0 := Lib.hid (below_alloc w (.cells #[.slice la n lc, .slice ea m ec] 25))
  have D0 := Lib.hid (heap_alloc_new w (.cells #[.slice la n lc, .slice ea m ec] 25))
  have L0 := Lib.hid (HL.out.step B0.out)
  have E0 := Lib.hid (HE.out.step B0.out)
  go_enter Tryd.func3, Tryd.ntmps3
  go_upto_region 5 with (first
    | (go_at_call 9; (with_reducible refine (HK.out _ L0 E0).mono ?_); rintro e w1 ⟨aa, ac, ab, ad, rfl, y1, y2, hb⟩; have bl := below_alloc w1 (.cells #[.slice aa N ac, .slice ab M ad] 25); have AA1 := Lib.hid (y1.step bl); have AB1 := Lib.hid (y2.step bl); have H11 := Lib.hid (heap_alloc_new w1 (.cells #[.slice aa N ac, .slice ab M ad] 25)); have B1 := Lib.hid (pstep (pstep B0.out hb) bl); have D1 := Lib.hid (heap_step (heap_step D0.out hb) bl); have L1 := Lib.hid (HL.out.step B1.out); have E1 := Lib.hid (HE.out.step B1.out); have G1 := pair_at D1.out; have l1 := heap_lt D1.out; clear y1 y2 hb bl)
    | (go_at_call 10; (with_reducible refine (HQ.out _ L1 E1).mono ?_); rintro e w2 ⟨ba, bc, bb, bd, rfl, y1, y2, hb⟩; have bl := below_alloc w2 (.cells #[.slice ba N bc, .slice bb M bd] 25); have BA2 := Lib.hid (y1.step bl); have BB2 := Lib.hid (y2.step bl); have AA2 := Lib.hid ((AA1.out.step hb).step bl); have AB2 := Lib.hid ((AB1.out.step hb).step bl); have H12 := Lib.hid (heap_step (heap_step H11.out hb) bl); have H22 := Lib.hid (heap_alloc_new w2 (.cells #[.slice ba N bc, .slice bb M bd] 25)); have B2 := Lib.hid (pstep (pstep B1.out hb) bl); have D2 := Lib.hid (heap_step (heap_step D1.out hb) bl); have L2 := Lib.hid (HL.out.step B2.out); have E2 := Lib.hid (HE.out.step B2.out); have G2 := pair_at D2.out; have l2 := heap_lt D2.out; clear y1 y2 hb bl)
    | (go_at_call 11; (with_reducible refine (HR.out _ L2 E2).mono ?_); rintro e w3 ⟨ca, cc, cb, cd, pa, pc, rfl, y1, y2, y3, hb⟩; have bl := below_alloc w3 (.cells #[.slice ca N2 cc, .slice cb M2 cd] 25); have CA3 := Lib.hid (y1.step bl); have CB3 := Lib.hid (y2.step bl); have PP3 := Lib.hid (y3.step bl); have AA3 := Lib.hid ((AA2.out.step hb).step bl); have AB3 := Lib.hid ((AB2.out.step hb).step bl); have BA3 := Lib.hid ((BA2.out.step hb).step bl); have BB3 := Lib.hid ((BB2.out.step hb).step bl); have H13 := Lib.hid (heap_step (heap_step H12.out hb) bl); have H23 := Lib.hid (heap_step (heap_step H22.out hb) bl); have H33 := Lib.hid (heap_alloc_new w3 (.cells #[.slice ca N2 cc, .slice cb M2 cd] 25)); have B3 := Lib.hid (pstep (pstep B2.out hb) bl); have D3 := Lib.hid (heap_step (heap_step D2.out hb) bl); have L3 := Lib.hid (HL.out.step B3.out); have E3 := Lib.hid (HE.out.step B3.out); have G3 := pair_at D3.out; have l3 := heap_lt D3.out; clear y1 y2 y3 hb bl)
    | (go_at_call 12; (with_reducible refine (HS.out _ L3 E3).mono ?_); rintro e w4 ⟨da, dc, db, dd, qa, qc, rfl, y1, y2, y3, hb⟩; have bl := below_alloc w4 (.cells #[.slice da N2 dc, .slice db M2 dd] 25); have DA4 := Lib.hid (y1.step bl); have DB4 := Lib.hid (y2.step bl); have QQ4 := Lib.hid (y3.step bl); have AA4 := Lib.hid ((AA3.out.step hb).step bl); have AB4 := Lib.hid ((AB3.out.step hb).step bl); have BA4 := Lib.hid ((BA3.out.step hb).step bl); have BB4 := Lib.hid ((BB3.out.step hb).step bl); have CA4 := Lib.hid ((CA3.out.step hb).step bl); have CB4 := Lib.hid ((CB3.out.step hb).step bl); have PP4 := Lib.hid ((PP3.out.step hb).step bl); have H14 := Lib.hid (heap_step (heap_step H13.out hb) bl); have H24 := Lib.hid (heap_step (heap_step H23.out hb) bl); have H34 := Lib.hid (heap_step (heap_step H33.out hb) bl); have H44 := Lib.hid (heap_alloc_new w4 (.cells #[.slice da N2 dc, .slice db M2 dd] 25)); have B4 := Lib.hid (pstep (pstep B3.out hb) bl); have D4 := Lib.hid (heap_step (heap_step D3.out hb) bl); have L4 := Lib.hid (HL.out.step B4.out); have E4 := Lib.hid (HE.out.step B4.out); have G4 := pair_at D4.out; have l4 := heap_lt D4.out; clear y1 y2 y3 hb bl)
    | fail)
  have PS : Tl w (w4.alloc (.cells #[.slice da N2 dc, .slice db M2 dd] 25)) w1.heap.size w2.heap.size w3.heap.size w4.heap.size n m N M N2 M2 K la ea aa ab ba bb ca cb da db pa qa lc ec ac ad bc bd cc cd dc dd pc qc s sk sr g := ⟨B4.out, D4.out, H14.out, H24.out, H34.out, H44.out, L4.out, AA4.out, AB4.out, BA4.out, BB4.out, CA4.out, CB4.out, DA4.out, DB4.out, PP4.out, QQ4.out⟩
  have PSd := PS.step ((Below.refl _ _).drew)
  have sl : ∀ l, (strB l).toList = l := strB_list
  clear B0 D0 L0 E0 B1 D1 L1 E1 G1 l1 B2 D2 L2 E2 G2 l2 B3 D3 L3 E3 G3 l3 B4 D4 L4 E4 G4 l4 PS HK HQ HR HS HL HE H11 H12 H22 H13 H23 H33 H14 H24 H34 H44 AA1 AB1 AA2 AB2 BA2 BB2 AA3 AB3 BA3 BB3 CA3 CB3 PP3 AA4 AB4 BA4 BB4 CA4 CB4 PP4 DA4 DB4 QQ4
  generalize w4.alloc (.cells #[.slice da N2 dc, .slice db M2 dd] 25) = w5 at PSd ⊢
  generalize w1.heap.size = A1 at PSd ⊢
  generalize w2.heap.size = A2 at PSd ⊢
  generalize w3.heap.size = A3 at PSd ⊢
  generalize w4.heap.size = A4 at PSd ⊢
  go_region_held3 (fun w' => Tl w w' A1 A2 A3 A4 n m N M N2 M2 K la ea aa ab ba bb ca cb da db pa qa lc ec ac ad bc bd cc cd dc dd pc qc s sk sr g ∧ (w'.cell? ⟨w.heap.size, 0, none⟩ = some (.slice la n lc) ∧ w'.cell? ⟨w.heap.size, 1, none⟩ = some (.slice ea m ec)) ∧ (w'.cell? ⟨A1, 0, none⟩ = some (.slice aa N ac) ∧ w'.cell? ⟨A1, 1, none⟩ = some (.slice ab M ad)) ∧ (w'.cell? ⟨A2, 0, none⟩ = some (.slice ba N bc) ∧ w'.cell? ⟨A2, 1, none⟩ = some (.slice bb M bd)) ∧ (w'.cell? ⟨A3, 0, none⟩ = some (.slice ca N2 cc) ∧ w'.cell? ⟨A3, 1, none⟩ = some (.slice cb M2 cd)) ∧ (w'.cell? ⟨A4, 0, none⟩ = some (.slice da N2 dc) ∧ w'.cell? ⟨A4, 1, none⟩ = some (.slice db M2 dd)) ∧ (convert 23 9 (.slice pa K pc)).run Tryd.prog w' = .ok (.string (strB g)) w' ∧ (convert 23 9 (.slice qa K qc)).run Tryd.prog w' = .ok (.string (strB g)) w')
    ((refine Tl.all hK ?_; with_reducible assumption))
    (first
      | (go_at_call 13; (with_reducible refine (tl_right r hn hr (by with_reducible assumption)).mono ?_); rintro e x1 ⟨rfl, TT⟩)
      | (go_at_call 14; (with_reducible refine (tl_qright r hn hn63 hr (by with_reducible assumption)).mono ?_); rintro e x1 ⟨rfl, TT⟩)
      | (go_at_call 15; (with_reducible refine (tl_same1 h1 h2 h3 (by with_reducible assumption)).mono ?_); rintro e x1 ⟨rfl, TT⟩)
      | (go_at_call 15; (with_reducible refine (tl_same2 h4 h5 h6 (by with_reducible assumption)).mono ?_); rintro e x1 ⟨rfl, TT⟩))
  all_goals go_wp2_with fail
  all_goals go_ret
  all_goals exact ⟨rfl, (by assumption : Tl w _ A1 A2 A3 A4 n m N M N2 M2 K la ea aa ab ba bb ca cb da db pa qa lc ec ac ad bc bd cc cd dc dd pc qc s sk sr g).b⟩
end Go.Proofs.YtomgifdnnfbpnaaDoor
