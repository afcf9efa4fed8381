/- The walk of NestTells. -/
import Derived.Test.YteeejkcehajokaaNesK
import Derived.Test.YteeejkcehajokaaNesO
import Derived.Deep.Cut
import Derived.Deep.RegionHeld3
namespace Go.Proofs.Yteeejkcehajokaa
open Go.RowKit

/-- A core's box: its value, and what its frames read as. -/
structure CoreBox (w : World) (b : Nat) (on : Bool) (ad : Option Addr) (n cap : Nat) (l : List FrT) : Prop where
  h : w.heap[b]? = some (.cells #[.bool on, .slice ad n cap] 24 (0, 0))
  a : shF.At w ad cap l
theorem CoreBox.step {w w' : World} {b : Nat} {on : Bool} {ad : Option Addr} {n cap : Nat} {l : List FrT} (h : CoreBox w b on ad n cap l) (hb : Below w.heap.size w w') : CoreBox w' b on ad n cap l := ⟨heap_step h.h hb, h.a.step hb⟩
theorem CoreBox.cells {w : World} {b : Nat} {on : Bool} {ad : Option Addr} {n cap : Nat} {l : List FrT} (h : CoreBox w b on ad n cap l) : w.cell? ⟨b, 0, none⟩ = some (.bool on) ∧ w.cell? ⟨b, 1, none⟩ = some (.slice ad n cap) := pair_at h.h
theorem box_new {w : World} {on : Bool} {ad : Option Addr} {n cap : Nat} {l : List FrT} (h : shF.At w ad cap l) : CoreBox (w.alloc (.cells #[.bool on, .slice ad n cap] 24)) w.heap.size on ad n cap l := ⟨heap_alloc_new _ _, h.step (below_alloc _ _)⟩
/-- All that the last statement reads. -/
structure TeS (W : World) (C : Nat) (on : Bool) (ad : Option Addr) (n cap : Nat) (l : List FrT) (A B : Nat) (on1 : Bool) (a1 b1 : Option Addr) (n1 ac1 bc1 : Nat) (l1 : List FrT) (X Y : Nat) (on2 : Bool) (a2 b2 : Option Addr) (n2 ac2 bc2 : Nat) (l2 : List FrT) (ea eb : Option Addr) (eca ecb : Nat) (es : List Int) (w : World) : Prop where
  b : Below W.heap.size W w
  c : CoreBox w C on ad n cap l
  a : CoreBox w A on1 a1 n1 ac1 l1
  b' : CoreBox w B on1 b1 n1 bc1 l1
  x : CoreBox w X on2 a2 n2 ac2 l2
  y : CoreBox w Y on2 b2 n2 bc2 l2
  e : shI.At w ea eca es
  f : shI.At w eb ecb es
section
variable {W w w' : World} {C : Nat} {on : Bool} {ad : Option Addr} {n cap : Nat} {l : List FrT} {A B : Nat} {on1 : Bool} {a1 b1 : Option Addr} {n1 ac1 bc1 : Nat} {l1 : List FrT} {X Y : Nat} {on2 : Bool} {a2 b2 : Option Addr} {n2 ac2 bc2 : Nat} {l2 : List FrT} {ea eb : Option Addr} {eca ecb : Nat} {es : List Int}
theorem TeS.step (h : TeS W C on ad n cap l A B on1 a1 b1 n1 ac1 bc1 l1 X Y on2 a2 b2 n2 ac2 bc2 l2 ea eb eca ecb es w) (hb : Below w.heap.size w w') : TeS W C on ad n cap l A B on1 a1 b1 n1 ac1 bc1 l1 X Y on2 a2 b2 n2 ac2 bc2 l2 ea eb eca ecb es w' := ⟨pstep h.b hb, h.c.step hb, h.a.step hb, h.b'.step hb, h.x.step hb, h.y.step hb, h.e.step hb, h.f.step hb⟩
theorem TeS.drew (h : TeS W C on ad n cap l A B on1 a1 b1 n1 ac1 bc1 l1 X Y on2 a2 b2 n2 ac2 bc2 l2 ea eb eca ecb es w) : TeS W C on ad n cap l A B on1 a1 b1 n1 ac1 bc1 l1 X Y on2 a2 b2 n2 ac2 bc2 l2 ea eb eca ecb es w.drew := h.step (Below.refl w.heap.size w).drew
theorem TeS.all (h : TeS W C on ad n cap l A B on1 a1 b1 n1 ac1 bc1 l1 X Y on2 a2 b2 n2 ac2 bc2 l2 ea eb eca ecb es w) : TeS W C on ad n cap l A B on1 a1 b1 n1 ac1 bc1 l1 X Y on2 a2 b2 n2 ac2 bc2 l2 ea eb eca ecb es w ∧ (w.cell? ⟨C, 0, none⟩ = some (.bool on) ∧ w.cell? ⟨C, 1, none⟩ = some (.slice ad n cap)) ∧ (w.cell? ⟨A, 0, none⟩ = some (.bool on1) ∧ w.cell? ⟨A, 1, none⟩ = some (.slice a1 n1 ac1)) ∧ (w.cell? ⟨B, 0, none⟩ = some (.bool on1) ∧ w.cell? ⟨B, 1, none⟩ = some (.slice b1 n1 bc1)) ∧ (w.cell? ⟨X, 0, none⟩ = some (.bool on2) ∧ w.cell? ⟨X, 1, none⟩ = some (.slice a2 n2 ac2)) ∧ (w.cell? ⟨Y, 0, none⟩ = some (.bool on2) ∧ w.cell? ⟨Y, 1, none⟩ = some (.slice b2 n2 bc2)) := ⟨h, h.c.cells, h.a.cells, h.b'.cells, h.x.cells, h.y.cells⟩
theorem te_right (w : World) (hl : Hid (l.length = n)) (hn : n ≤ 9223372036854775807) (r : Bool) (hr : Hid (r = true ↔ RtN ⟨on, l⟩)) (h : TeS W C on ad n cap l A B on1 a1 b1 n1 ac1 bc1 l1 X Y on2 a2 b2 n2 ac2 bc2 l2 ea eb eca ecb es w) :
    Calls Try.prog 11 #[.agg #[.bool on, .slice ad n cap]] w fun e w' => e = .returned (.bool r) ∧ TeS W C on ad n cap l A B on1 a1 b1 n1 ac1 bc1 l1 X Y on2 a2 b2 n2 ac2 bc2 l2 ea eb eca ecb es w' :=
  (right_N on w (Lib.hid h.c.a) hl hn).mono fun _ _ ⟨h1, h2⟩ => ⟨retB_eq h1 hr.out, h.step h2⟩
theorem te_gright (w : World) (hl : Hid (l.length = n)) (hn : n ≤ 9223372036854775807) (r : Bool) (hr : Hid (r = true ↔ RtN ⟨on, l⟩)) (h : TeS W C on ad n cap l A B on1 a1 b1 n1 ac1 bc1 l1 X Y on2 a2 b2 n2 ac2 bc2 l2 ea eb eca ecb es w) :
    Calls Try.prog 12 #[.agg #[.bool on, .slice ad n cap]] w fun e w' => e = .returned (.bool r) ∧ TeS W C on ad n cap l A B on1 a1 b1 n1 ac1 bc1 l1 X Y on2 a2 b2 n2 ac2 bc2 l2 ea eb eca ecb es w' :=
  (gright_N on w (Lib.hid h.c.a) hl hn).mono fun _ _ ⟨h1, h2⟩ => ⟨retB_eq h1 hr.out, h.step h2⟩
theorem te_sameA (w : World) (hl : Hid (l1.length = n1)) (hn : n1 ≤ 9223372036854775807) (h : TeS W C on ad n cap l A B on1 a1 b1 n1 ac1 bc1 l1 X Y on2 a2 b2 n2 ac2 bc2 l2 ea eb eca ecb es w) :
    Calls Try.prog 13 #[.agg #[.bool on1, .slice a1 n1 ac1], .agg #[.bool on1, .slice b1 n1 bc1]] w fun e w' => e = .returned (.bool true) ∧ TeS W C on ad n cap l A B on1 a1 b1 n1 ac1 bc1 l1 X Y on2 a2 b2 n2 ac2 bc2 l2 ea eb eca ecb es w' :=
  (same_N on1 w hl (Lib.hid h.a.a) (Lib.hid h.b'.a) hn).mono fun _ _ ⟨h1, h2⟩ => ⟨h1, h.step h2⟩
theorem te_sameX (w : World) (hl : Hid (l2.length = n2)) (hn : n2 ≤ 9223372036854775807) (h : TeS W C on ad n cap l A B on1 a1 b1 n1 ac1 bc1 l1 X Y on2 a2 b2 n2 ac2 bc2 l2 ea eb eca ecb es w) :
    Calls Try.prog 13 #[.agg #[.bool on2, .slice a2 n2 ac2], .agg #[.bool on2, .slice b2 n2 bc2]] w fun e w' => e = .returned (.bool true) ∧ TeS W C on ad n cap l A B on1 a1 b1 n1 ac1 bc1 l1 X Y on2 a2 b2 n2 ac2 bc2 l2 ea eb eca ecb es w' :=
  (same_N on2 w hl (Lib.hid h.x.a) (Lib.hid h.y.a) hn).mono fun _ _ ⟨h1, h2⟩ => ⟨h1, h.step h2⟩
theorem te_equal (w : World) (m : Nat) (hl : Hid (es.length = m)) (hn : m ≤ 9223372036854775807) (h : TeS W C on ad n cap l A B on1 a1 b1 n1 ac1 bc1 l1 X Y on2 a2 b2 n2 ac2 bc2 l2 ea eb eca ecb es w) :
    Calls Try.prog 14 #[.slice ea m eca, .slice eb m ecb] w fun e w' => e = .returned (.bool true) ∧ TeS W C on ad n cap l A B on1 a1 b1 n1 ac1 bc1 l1 X Y on2 a2 b2 n2 ac2 bc2 l2 ea eb eca ecb es w' :=
  (equalE w hl (Lib.hid h.e) (Lib.hid h.f) hn).mono fun _ _ ⟨h1, h2⟩ => ⟨h1, h.step h2⟩
end
set_option maxHeartbeats 4000000 in
set_option maxRecDepth 100000 in
theorem tells_N {ad ka : Option Addr} {cap n kc kn : Nat} {l : List FrT} {ks : List Int} (on : Bool) (kind : Int) (w : World) (HA : Hid (shF.At w ad cap l)) (hm : Hid (l.length = n)) (hn : n ≤ 9223372036854775807) (hcap : n ≤ cap) (HK : Hid (shI.At w ka kc ks)) (hk : Hid (ks.length = kn)) (hkn : kn ≤ 17592186044416) :
    Calls Try.prog 3 #[.agg #[.bool on, .slice ad n cap], .int .i64 kind, .slice ka kn kc] w fun e w' => e = .returned (.bool true) ∧ Below w.heap.size w w' := by
  obtain ⟨⟨⟨on1, l1⟩, x⟩, hs⟩ : ∃ r, stepNN ⟨on, l⟩ kind = r := ⟨_, rfl⟩
  obtain ⟨n1, hn1⟩ : ∃ m, l1.length = m := ⟨_, rfl⟩
  obtain ⟨⟨es, ⟨on2, l2⟩⟩, hr⟩ : ∃ r, runN ks = r := ⟨_, rfl⟩
  obtain ⟨n2, hn2⟩ : ∃ m, l2.length = m := ⟨_, rfl⟩
  have HS := Lib.hid hs
  have HN1 := Lib.hid hn1
  have HR := Lib.hid hr
  have HN2 := Lib.hid hn2
  have HES : Hid (es.length = kn) := Lib.hid (by have := runN_len ks; rw [hr, hk.out] at this; exact this)
  have q1 : n1 ≤ 9223372036854775807 := by
    have hh := hs
    unfold stepNN at hh
    by_cases e : errN (okN ⟨on, l⟩) ⟨on, l⟩ kind = 0
    · have hc : RtN ⟨on, l⟩ := by
        apply okN_true.1
        cases k : okN ⟨on, l⟩ with
        | true => rfl
        | false => rw [k, errN_no] at e; cases e
      have h2 := hc.step (kind := kind) (by rw [okN_true.2 hc] at e; exact e)
      rw [if_pos e] at hh
      simp only [Prod.mk.injEq] at hh
      rw [hh.1] at h2
      have := h2.len
      simp only at this
      omega
    · rw [if_neg e] at hh
      simp only [Prod.mk.injEq, CoreT.mk.injEq] at hh
      rw [← hn1, ← hh.1.2]
      decide
  have q2 : n2 ≤ 9223372036854775807 := by
    have := (ev_run ks).rt.len
    rw [hr] at this
    simp only at this
    omega
  clear hs hn1 hr hn2
  have C0 := Lib.hid (CoreBox.mk (heap_alloc_new w (.cells #[.bool on, .slice ad n cap] 24)) (HA.out.step (below_alloc w (.cells #[.bool on, .slice ad n cap] 24))) : CoreBox (w.alloc (.cells #[.bool on, .slice ad n cap] 24)) w.heap.size on ad n cap l)
  have B0 := Lib.hid (below_alloc w (.cells #[.bool on, .slice ad n cap] 24))
  have K0 := Lib.hid (HK.out.step (below_alloc w (.cells #[.bool on, .slice ad n cap] 24)))
  have G0 := C0.out.cells
  go_enter Try.func3, Try.ntmps3
  go_upto_region 5 with (first
    | (go_at_call 7; (with_reducible refine (step_N on kind _ (Lib.hid C0.out.a) hm hn on1 l1 n1 x HS HN1).mono ?_); rintro e w1 ⟨a1, ac1, rfl, hat, hb⟩; have bb := hb.trans ((below_alloc w1 (.cells #[.bool on1, .slice a1 n1 ac1] 24)).mono hb.size); have B1 := Lib.hid (pstep B0.out bb); have K1 := Lib.hid (K0.out.step bb); have C1 := Lib.hid (C0.out.step bb); have A1 := Lib.hid (box_new hat : CoreBox (w1.alloc (.cells #[.bool on1, .slice a1 n1 ac1] 24)) _ _ _ _ _ _); have G1 := C1.out.cells; clear bb hb hat)
    | (go_at_call 8; (with_reducible refine (gstep_N on kind _ (Lib.hid C1.out.a) hm hn hcap on1 l1 n1 x HS HN1).mono ?_); rintro e w2 ⟨b1, bc1, rfl, hat0, hb⟩; have hat := Shape.At.own (S := shF) hat0 HN1.out; have bb := hb.trans ((below_alloc w2 (.cells #[.bool on1, .slice b1 n1 bc1] 24)).mono hb.size); have B2 := Lib.hid (pstep B1.out bb); have K2 := Lib.hid (K1.out.step bb); have C2 := Lib.hid (C1.out.step bb); have A2 := Lib.hid (A1.out.step bb); have D2 := Lib.hid (box_new hat : CoreBox (w2.alloc (.cells #[.bool on1, .slice b1 n1 bc1] 24)) _ _ _ _ _ _); have G2 := C2.out.cells; clear bb hb hat hat0)
    | (go_at_call 9; (with_reducible refine (play_N _ K2 hk hkn es on2 l2 n2 HR HN2).mono ?_); rintro e w3 ⟨ea, eca, a2, ac2, rfl, hE, hat, hb⟩; have bb := hb.trans ((below_alloc w3 (.cells #[.bool on2, .slice a2 n2 ac2] 24)).mono hb.size); have B3 := Lib.hid (pstep B2.out bb); have K3 := Lib.hid (K2.out.step bb); have C3 := Lib.hid (C2.out.step bb); have A3 := Lib.hid (A2.out.step bb); have D3 := Lib.hid (D2.out.step bb); have X3 := Lib.hid (box_new hat : CoreBox (w3.alloc (.cells #[.bool on2, .slice a2 n2 ac2] 24)) _ _ _ _ _ _); have E3 := Lib.hid (hE.step (below_alloc w3 (.cells #[.bool on2, .slice a2 n2 ac2] 24))); have G3 := C3.out.cells; clear bb hb hat hE)
    | (go_at_call 10; (with_reducible refine (gplay_N _ K3 hk hkn es on2 l2 n2 HR HN2).mono ?_); rintro e w4 ⟨eb, ecb, b2, bc2, rfl, hF, hat, hb⟩; have bb := hb.trans ((below_alloc w4 (.cells #[.bool on2, .slice b2 n2 bc2] 24)).mono hb.size); have B4 := Lib.hid (pstep B3.out bb); have K4 := Lib.hid (K3.out.step bb); have C4 := Lib.hid (C3.out.step bb); have A4 := Lib.hid (A3.out.step bb); have D4 := Lib.hid (D3.out.step bb); have X4 := Lib.hid (X3.out.step bb); have E4 := Lib.hid (E3.out.step bb); have Y4 := Lib.hid (box_new hat : CoreBox (w4.alloc (.cells #[.bool on2, .slice b2 n2 bc2] 24)) _ _ _ _ _ _); have F4 := Lib.hid (hF.step (below_alloc w4 (.cells #[.bool on2, .slice b2 n2 bc2] 24))); have G4 := C4.out.cells; clear bb hb hat hF)
    | fail)
  have PS : TeS w w.heap.size on ad n cap l w1.heap.size w2.heap.size on1 a1 b1 n1 ac1 bc1 l1 w3.heap.size w4.heap.size on2 a2 b2 n2 ac2 bc2 l2 ea eb eca ecb es (w4.alloc (.cells #[.bool on2, .slice b2 n2 bc2] 24)) := ⟨B4.out, C4.out, A4.out, D4.out, X4.out, Y4.out, E4.out, F4.out⟩
  have PSd := PS.drew
  obtain ⟨r, hr⟩ : ∃ r, okN ⟨on, l⟩ = r := ⟨_, rfl⟩
  have HRR : Hid (r = true ↔ RtN ⟨on, l⟩) := Lib.hid (by rw [← hr]; exact okN_true)
  clear B4 C4 A4 D4 X4 Y4 E4 F4 B0 K0 G0 C0 hr B1 C1 A1 K1 G1 B2 C2 A2 D2 K2 B3 C3 A3 D3 X3 K3 E3 K4 PS
  generalize w4.alloc (.cells #[.bool on2, .slice b2 n2 bc2] 24) = w5 at PSd ⊢
  generalize w1.heap.size = A at PSd ⊢
  generalize w2.heap.size = B at PSd ⊢
  generalize w3.heap.size = X at PSd ⊢
  generalize w4.heap.size = Y at PSd ⊢
  generalize hC : w.heap.size = C at PSd ⊢
  go_region_held3 (fun w' => TeS w C on ad n cap l A B on1 a1 b1 n1 ac1 bc1 l1 X Y on2 a2 b2 n2 ac2 bc2 l2 ea eb eca ecb es w' ∧ (w'.cell? ⟨C, 0, none⟩ = some (.bool on) ∧ w'.cell? ⟨C, 1, none⟩ = some (.slice ad n cap)) ∧ (w'.cell? ⟨A, 0, none⟩ = some (.bool on1) ∧ w'.cell? ⟨A, 1, none⟩ = some (.slice a1 n1 ac1)) ∧ (w'.cell? ⟨B, 0, none⟩ = some (.bool on1) ∧ w'.cell? ⟨B, 1, none⟩ = some (.slice b1 n1 bc1)) ∧ (w'.cell? ⟨X, 0, none⟩ = some (.bool on2) ∧ w'.cell? ⟨X, 1, none⟩ = some (.slice a2 n2 ac2)) ∧ (w'.cell? ⟨Y, 0, none⟩ = some (.bool on2) ∧ w'.cell? ⟨Y, 1, none⟩ = some (.slice b2 n2 bc2)))
    ((refine TeS.all ?_; with_reducible assumption))
    (first
      | (go_at_call 11; (with_reducible refine (te_right (W := w) _ hm hn r HRR (by with_reducible assumption)).mono ?_); rintro e x1 ⟨rfl, TT⟩)
      | (go_at_call 12; (with_reducible refine (te_gright (W := w) _ hm hn r HRR (by with_reducible assumption)).mono ?_); rintro e x1 ⟨rfl, TT⟩)
      | (go_at_call 13; (with_reducible refine (te_sameA (W := w) _ HN1 q1 (by with_reducible assumption)).mono ?_); rintro e x1 ⟨rfl, TT⟩)
      | (go_at_call 13; (with_reducible refine (te_sameX (W := w) _ HN2 q2 (by with_reducible assumption)).mono ?_); rintro e x1 ⟨rfl, TT⟩)
      | (go_at_call 14; (with_reducible refine (te_equal (W := w) _ kn HES (by omega) (by with_reducible assumption)).mono ?_); rintro e x1 ⟨rfl, TT⟩))
  all_goals go_wp2_with fail
  all_goals go_ret
  all_goals exact ⟨rfl, (by assumption : TeS w C on ad n cap l A B on1 a1 b1 n1 ac1 bc1 l1 X Y on2 a2 b2 n2 ac2 bc2 l2 ea eb eca ecb es _).b⟩
theorem nestTells_walk (v0 v1 v2 : Value) (w : World) (g0 : ArgCore w v0) (g1 : ArgInt w v1) (g2 : ArgKs w v2) (u : lenOf v2 ≤ 17592186044416) : Calls Try.prog 3 #[v0, v1, v2] w fun e w' => e = .returned (.bool true) ∧ Below w.heap.size w w' := by
  obtain ⟨on, ad, cap, l, rfl, hat, hn, hc⟩ := g0
  obtain ⟨k, rfl⟩ := g1
  obtain ⟨ka, kc, ks, rfl, hks, _⟩ := g2
  exact tells_N on k w (Lib.hid hat) (Lib.hid rfl) hn hc (Lib.hid hks) (Lib.hid rfl) u
end Go.Proofs.Yteeejkcehajokaa
