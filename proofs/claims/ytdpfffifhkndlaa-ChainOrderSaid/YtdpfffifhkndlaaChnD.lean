/- Package chain: the walk of Serve. -/
import Derived.Test.YtdpfffifhkndlaaChnC
namespace Go.Proofs.Ytdpfffifhkndlaa
open Go.RowKit

section
variable {P : Program}
theorem results_tmp2_row_tmp1 {fn : Func} {p u v q : Tmp} {ty : TypeId} (h : fn.results = #[.tmp u, .tmp v, .cell p ty, .tmp q]) (tmps : Array Value) (w : World) (g : Nat) (t : TypeId) (cs : Array Value) (fr : Nat × Nat) (d : TypeDesc)
    (hp : tmps.getD p undef = .pointer (some ⟨g, 0, none⟩)) (hg : w.heap[g]? = some (.cells cs t fr))
    (hu : P.underlying ty = some d) (hd : (match d with | .struct _ | .array _ _ => true | _ => false) = true) (hi : (P.info? ty).map (·.size) = some cs.size) :
    (results fn tmps).run P w = .ok (.tuple #[tmps.getD u undef, tmps.getD v undef, .agg cs, tmps.getD q undef]) w := by
  have hp' : tmps[p]?.getD undef = .pointer (some ⟨g, 0, none⟩) := by simpa using hp
  simp [results, h, hp', asAddr, run_loadVar_row w g t ty cs fr d hg hu hd hi]
theorem results_tmp2_row {fn : Func} {p u v : Tmp} {ty : TypeId} (h : fn.results = #[.tmp u, .tmp v, .cell p ty]) (tmps : Array Value) (w : World) (g : Nat) (t : TypeId) (cs : Array Value) (fr : Nat × Nat) (d : TypeDesc)
    (hp : tmps.getD p undef = .pointer (some ⟨g, 0, none⟩)) (hg : w.heap[g]? = some (.cells cs t fr))
    (hu : P.underlying ty = some d) (hd : (match d with | .struct _ | .array _ _ => true | _ => false) = true) (hi : (P.info? ty).map (·.size) = some cs.size) :
    (results fn tmps).run P w = .ok (.tuple #[tmps.getD u undef, tmps.getD v undef, .agg cs]) w := by
  have hp' : tmps[p]?.getD undef = .pointer (some ⟨g, 0, none⟩) := by simpa using hp
  simp [results, h, hp', asAddr, run_loadVar_row w g t ty cs fr d hg hu hd hi]
end
theorem tOk_parts {c m : Int} {o : Bool} (h : tOk c m o = true) : (0 ≤ c ∧ c ≤ 1099511627776) ∧ (0 ≤ m ∧ m ≤ 5) ∧ (o = true ↔ m = 5) := by
  simp only [tOk, Bool.and_eq_true, decide_eq_true_eq, beq_iff_eq] at h
  refine ⟨h.1.1, h.1.2, ?_⟩
  rw [h.2]; simp
theorem errI_zero {l : List HdT} {c m : Int} {o : Bool} (h : errI l c m o = 0) : RtI l ∧ 0 ≤ c ∧ c < 1099511627776 ∧ 0 ≤ m ∧ m ≤ 4 ∧ o = false := by
  unfold errI at h
  split at h
  · cases h
  · rename_i h1
    have hr : RtI l := by
      cases e : decide (RtI l) with
      | false => exact absurd (Or.inl e) h1
      | true => exact of_decide_eq_true e
    have ht : tOk c m o = true := by
      cases e : tOk c m o with
      | false => exact absurd (Or.inr e) h1
      | true => rfl
    obtain ⟨h2, h3, h4⟩ := tOk_parts ht
    split at h
    · cases h
    · rename_i h5
      split at h
      · cases h
      · have : ¬ m = 5 := fun e => h5 (h4.2 e)
        exact ⟨hr, h2.1, by omega, h3.1, by omega, by simpa using h5⟩
theorem tal_stored {w : World} {b : Nat} {x y z x' y' z' : Value} {T : TypeId} (h : w.heap[b]? = some (.cells #[x, y, z] T (0, 0))) : (((w.setCell ⟨b, 0, none⟩ x').setCell ⟨b, 1, none⟩ y').setCell ⟨b, 2, none⟩ z').heap[b]? = some (.cells #[x', y', z'] T (0, 0)) :=
  heap_setCell_same _ b 2 _ _ z' (heap_setCell_same _ b 1 _ _ y' (heap_setCell_same _ b 0 _ _ x' h))
theorem set3_below {w wx : World} {b : Nat} (x y z : Value) (h : Below w.heap.size w wx) (hb : w.heap.size ≤ b) : Below w.heap.size w (((wx.setCell ⟨b, 0, none⟩ x).setCell ⟨b, 1, none⟩ y).setCell ⟨b, 2, none⟩ z) := ((h.setCell hb _).setCell hb _).setCell hb _
/-- The boxes of the tally and of the result. -/
structure Bs (w wx : World) (c m : Int) (o : Bool) : Prop where
  b : Below w.heap.size w wx
  t : wx.heap[w.heap.size]? = some (.cells #[.int .i64 c, .int .i64 m, .bool o] 24 (0, 0))
  z : wx.heap[w.heap.size + 1]? = some (.cells #[.int .i64 0, .int .i64 0, .bool false] 24 (0, 0))
section
variable {w wx wy : World} {c m : Int} {o : Bool}
theorem Bs.step (h : Bs w wx c m o) (hb : Below wx.heap.size wx wy) : Bs w wy c m o := ⟨pstep h.b hb, heap_step h.t hb, heap_step h.z hb⟩
theorem bs_new (w : World) (c m : Int) (o : Bool) : Bs w ((w.alloc (.cells #[.int .i64 c, .int .i64 m, .bool o] 24)).alloc (.cells #[.int .i64 0, .int .i64 0, .bool false] 24)) c m o :=
  ⟨below_two w _ _, heap_step (heap_alloc_new w _) (below_alloc _ _), heap_alloc2_new w _ _⟩
theorem Bs.cells (h : Bs w wx c m o) : (wx.cell? ⟨w.heap.size, 0, none⟩ = some (.int .i64 c) ∧ wx.cell? ⟨w.heap.size, 1, none⟩ = some (.int .i64 m) ∧ wx.cell? ⟨w.heap.size, 2, none⟩ = some (.bool o)) ∧ (wx.cell? ⟨w.heap.size + 1, 0, none⟩ = some (.int .i64 0) ∧ wx.cell? ⟨w.heap.size + 1, 1, none⟩ = some (.int .i64 0) ∧ wx.cell? ⟨w.heap.size + 1, 2, none⟩ = some (.bool false)) ∧ (∀ i, wx.frozen? ⟨w.heap.size, i, none⟩ = false) ∧ (∀ i, wx.frozen? ⟨w.heap.size + 1, i, none⟩ = false) :=
  ⟨trio_at h.t, trio_at h.z, fun i => frozen_of_row _ _ i _ _ h.t, fun i => frozen_of_row _ _ i _ _ h.z⟩
theorem Bs.lt (h : Bs w wx c m o) : w.heap.size + 1 < wx.heap.size := heap_lt h.z
theorem Bs.grown {B : Nat} (h : Bs w wx c m o) (hg : wx.grownBy wy (some B)) (hB : w.heap.size + 1 < B) : Bs w wy c m o :=
  ⟨h.b.grown hg h.b.size (fun k hk => by cases hk; omega),
    (hg.block _ (heap_lt h.t) (fun e => by cases e; omega)).trans h.t,
    (hg.block _ (heap_lt h.z) (fun e => by cases e; omega)).trans h.z⟩
theorem set_other {w : World} {B b i : Nat} {v : Value} (h : B ≠ b) : (w.setCell ⟨b, i, none⟩ v).heap[B]? = w.heap[B]? := Below.heap_setCell _ _ _ _ h
theorem at_set {α : Type} {S : Shape α} {w : World} {ad : Option Addr} {cap : Nat} {l : List α} {b : Nat} (h : S.At w ad cap l) (i : Nat) (v : Value) (hb : ∀ a, ad = some a → a.block ≠ b) : S.At (w.setCell ⟨b, i, none⟩ v) ad cap l :=
  ⟨h.1, fun h0 => by
    obtain ⟨g, off, e, hlt, hl⟩ := h.2 h0
    have hne := hb _ e
    simp only at hne
    refine ⟨g, off, e, by simpa using hlt, fun k hk => ?_⟩
    rw [← hl k hk]
    unfold World.cell?
    rw [set_other hne]⟩
theorem at_tal {α : Type} {S : Shape α} {w : World} {ad : Option Addr} {cap : Nat} {l : List α} {b : Nat} (x y z : Value) (h : S.At w ad cap l) (hb : ∀ a, ad = some a → a.block ≠ b) : S.At (((w.setCell ⟨b, 0, none⟩ x).setCell ⟨b, 1, none⟩ y).setCell ⟨b, 2, none⟩ z) ad cap l :=
  at_set (at_set (at_set h 0 x hb) 1 y hb) 2 z hb
end
theorem own_pos {base : Nat} {w : World} {ad : Option Addr} {cap : Nat} {l : List HdT} (h : OwnH base w ad cap l) (h0 : 0 < l.length) : ∃ B, ad = some ⟨B, 0, none⟩ ∧ base ≤ B ∧ RowH w B l := by
  rcases h with ⟨_, _, rfl⟩ | h
  · cases h0
  · exact h
set_option maxHeartbeats 1000000 in
set_option maxRecDepth 100000 in
theorem serve_err {ad : Option Addr} {cap n : Nat} {l : List HdT} (c m : Int) (o : Bool) (w : World) (HA : Hid (shH.At w ad cap l)) (hm : Hid (l.length = n)) (hn : n ≤ 9223372036854775807) (x : Int) (hx : Hid (errI l c m o = x)) (hx0 : (x != 0) = true) :
    Calls Try.prog 8 #[.slice ad n cap, .agg #[.int .i64 c, .int .i64 m, .bool o]] w fun e w' => e = .returned (.tuple #[.slice none 0 0, .slice none 0 0, .agg #[.int .i64 0, .int .i64 0, .bool false], .int .i64 x]) ∧ Below w.heap.size w w' := by
  have S0 := Lib.hid (bs_new w c m o)
  have HA0 := Lib.hid (HA.out.step S0.out.b)
  go_enter Try.func8, Try.ntmps8
  go_wp2_with (first
    | (go_at_call 21; (with_reducible refine (check_N c m o _ HA0 hm hn x hx).mono ?_); rintro e w1 ⟨rfl, hb⟩; have S1 := Lib.hid (S0.out.step hb); have G1 := S1.out.cells; clear hb)
    | fail)
  refine bodyPost_ret (results_tmp2_row_tmp1 rfl _ _ (w.heap.size + 1) 24 #[.int .i64 0, .int .i64 0, .bool false] (0, 0) _ rfl (tal_stored S1.out.z) Try.underlying24 rfl size_tally) rfl ⟨rfl, set3_below _ _ _ S1.out.b (by omega)⟩
/-- Where handlers lie. -/
def AdH (base : Nat) (w : World) (ad : Option Addr) : Prop := ∀ a, ad = some a → base ≤ a.block ∧ ∃ cs, w.heap[a.block]? = some (.cells cs 32 (0, 0))
theorem OwnH.ad {base : Nat} {w : World} {ad : Option Addr} {cap : Nat} {l : List HdT} (h : OwnH base w ad cap l) : AdH base w ad := fun a e => by
  rcases h with ⟨rfl, _⟩ | ⟨B, rfl, hB, cur, hc, _⟩
  · cases e
  · cases e
    exact ⟨hB, cur, hc⟩
theorem AdH.step {base : Nat} {w w' : World} {ad : Option Addr} (h : AdH base w ad) (hb : Below w.heap.size w w') : AdH base w' ad := fun a e => by
  obtain ⟨h1, cs, h2⟩ := h a e
  exact ⟨h1, cs, heap_step h2 hb⟩
theorem AdH.low {base base' : Nat} {w : World} {ad : Option Addr} (h : AdH base w ad) (hb : base' ≤ base) : AdH base' w ad := fun a e => ⟨Nat.le_trans hb (h a e).1, (h a e).2⟩
theorem AdH.tal {base b : Nat} {w : World} {ad : Option Addr} (x y z : Value) (h : AdH base w ad) (hb : b < base) : AdH base (((w.setCell ⟨b, 0, none⟩ x).setCell ⟨b, 1, none⟩ y).setCell ⟨b, 2, none⟩ z) ad := fun a e => by
  obtain ⟨h1, cs, h2⟩ := h a e
  refine ⟨h1, cs, ?_⟩
  rw [set_other (by omega), set_other (by omega), set_other (by omega)]
  exact h2
/-- What Serve answers where nothing speaks against it. -/
def ServeOut (w : World) (n : Nat) (l : List HdT) (c m' : Int) (o' : Bool) (e : Ending) (w' : World) : Prop :=
  ∃ ra rc wa wc, e = .returned (.tuple #[.slice ra n rc, .slice wa (wakI 0 0 l).length wc, .agg #[.int .i64 (c + 1), .int .i64 m', .bool o'], .int .i64 0]) ∧ shH.At w' ra rc (l.map (decN 1)) ∧ shI.At w' wa wc (intL (wakI 0 0 l)) ∧ Below w.heap.size w w' ∧ AdH w.heap.size w' ra ∧ ∀ a, wa = some a → w.heap.size ≤ a.block
set_option maxHeartbeats 1000000 in
set_option maxRecDepth 100000 in
theorem serve_ok {ad : Option Addr} {cap n : Nat} {l : List HdT} (c m : Int) (o : Bool) (w : World) (HA : Hid (shH.At w ad cap l)) (hm : Hid (l.length = n)) (hx : Hid (errI l c m o = 0)) (m' : Int) (o' : Bool) (H1 : Hid (nobI m (decide (0 < mostI l)) = m')) (H2 : Hid ((m' == 5) = o')) :
    Calls Try.prog 8 #[.slice ad n cap, .agg #[.int .i64 c, .int .i64 m, .bool o]] w (ServeOut w n l c m' o') := by
  have S0 := Lib.hid (bs_new w c m o)
  have HA0 := Lib.hid (HA.out.step S0.out.b)
  obtain ⟨hr, hc0, hc1, hm0, hm1, rfl⟩ := errI_zero hx.out
  have hc1' : c ≤ 1099511627776 := by omega
  have hm1' : m ≤ 5 := by omega
  have hn16 : n ≤ 16 := by rw [← hm.out]; exact hr.1
  have hn : n ≤ 9223372036854775807 := by omega
  have hn2 : n ≤ 8796093022208 := by omega
  have HRT := Lib.hid hr
  clear hr
  obtain ⟨cl, hcl⟩ : ∃ cl, cl = decide (0 < mostI l) := ⟨_, rfl⟩
  rw [← hcl] at H1
  have HCL := Lib.hid hcl
  clear hcl
  by_cases h0 : n = 0
  · subst h0
    obtain rfl : l = [] := List.eq_nil_of_length_eq_zero hm.out
    obtain rfl : cl = false := by rw [HCL.out]; rfl
    go_enter Try.func8, Try.ntmps8
    go_wp2_with (first
      | (go_at_call 21; (with_reducible refine (check_N c m false _ HA0 hm hn 0 hx).mono ?_); rintro e w1 ⟨rfl, hb⟩; have S1 := Lib.hid (S0.out.step hb); have HA1 := Lib.hid (HA0.out.step hb); clear hb)
      | (go_at_call 19; (with_reducible refine (clone_H [] ad 0 cap _ hm HA1 hn2).mono ?_); rintro e w2 ⟨ra, rc, rfl, o2, hb⟩; have S2 := Lib.hid (S1.out.step hb); have O2 := Lib.hid (own_hds o2).at; have N2' := Lib.hid ((own_hds o2).ad); have hlt1 := S1.out.lt; clear hb o2)
      | (go_at_call 22; (with_reducible refine (call_0 (ad := ra) (cap := rc) _).mono ?_); rintro e w3 ⟨rfl, rfl⟩; have G3 := S2.out.cells)
      | (go_at_call 23; (with_reducible refine (count_C c m false false _ hc0 hc1' hm0 hm1' m' o' H1 H2).mono ?_); rintro e w4 ⟨rfl, hb⟩; have S4 := Lib.hid (S2.out.step hb); have O4 := Lib.hid (O2.out.step hb); have N4 := Lib.hid (N2'.out.step hb); have G4 := S4.out.cells; clear hb)
      | fail)
    refine bodyPost_ret (results_tmp2_row_tmp1 rfl _ _ (w.heap.size + 1) 24 #[.int .i64 (c + 1), .int .i64 m', .bool o'] (0, 0) _ rfl (tal_stored S4.out.z) Try.underlying24 rfl size_tally) rfl ?_
    exact ⟨_, _, none, 0, rfl, ⟨O4.out.1, fun h => by simp at h⟩, Shape.At.nil _, set3_below _ _ _ S4.out.b (by omega), (N4.out.tal _ _ _ (by omega)).low (by omega), fun a e => by cases e⟩
  · have h0' : 0 < l.length := by rw [hm.out]; omega
    go_enter Try.func8, Try.ntmps8
    go_wp2_with (first
      | (go_at_call 21; (with_reducible refine (check_N c m false _ HA0 hm hn 0 hx).mono ?_); rintro e w1 ⟨rfl, hb⟩; have S1 := Lib.hid (S0.out.step hb); have HA1 := Lib.hid (HA0.out.step hb); clear hb)
      | (go_at_call 19; (with_reducible refine (clone_H l ad n cap _ hm HA1 hn2).mono ?_); rintro e w2 ⟨ra, rc, rfl, o2, hb⟩; obtain ⟨B, rfl, hMB, hrow⟩ := own_pos (own_hds o2) h0'; have S2 := Lib.hid (S1.out.step hb); have hB1 := Nat.lt_of_lt_of_le S1.out.lt hMB; have R2 := Lib.hid hrow; clear hb o2 hrow)
      | (go_at_call 22; (with_reducible refine (call_N _ R2 hm hn16 HRT cl HCL).mono ?_); rintro e w3 ⟨wa, wc, rfl, ha3, hr3, hg, hsh⟩; have S3 := Lib.hid (S2.out.grown hg hB1); have A3 := Lib.hid ha3; have R3 := Lib.hid hr3; have G3 := S3.out.cells; have N3 : Hid (∀ a, wa = some a → w.heap.size + 1 < a.block) := Lib.hid (fun a e => by have h1 := hsh a e; have h2 := S2.out.lt; omega); clear ha3 hr3 hg hsh)
      | (go_at_call 23; (with_reducible refine (count_C c m false cl _ hc0 hc1' hm0 hm1' m' o' H1 H2).mono ?_); rintro e w4 ⟨rfl, hb⟩; have S4 := Lib.hid (S3.out.step hb); have A4 := Lib.hid (A3.out.step hb); have R4 := Lib.hid (R3.out.step hb); have G4 := S4.out.cells; clear hb)
      | fail)
    refine bodyPost_ret (results_tmp2_row_tmp1 rfl _ _ (w.heap.size + 1) 24 #[.int .i64 (c + 1), .int .i64 m', .bool o'] (0, 0) _ rfl (tal_stored S4.out.z) Try.underlying24 rfl size_tally) rfl ?_
    exact ⟨_, _, wa, wc, rfl, at_tal _ _ _ (R4.out.at _) (fun a e => by cases e; simp only; omega), at_tal _ _ _ A4.out (fun a e => by have := N3.out a e; omega), set3_below _ _ _ S4.out.b (by omega), (AdH.tal (base := B) _ _ _ (fun a e => by cases e; obtain ⟨cur, hc, _⟩ := R4.out; exact ⟨Nat.le_refl _, cur, hc⟩) (by omega)).low (by omega), fun a e => by have := N3.out a e; omega⟩
end Go.Proofs.Ytdpfffifhkndlaa
