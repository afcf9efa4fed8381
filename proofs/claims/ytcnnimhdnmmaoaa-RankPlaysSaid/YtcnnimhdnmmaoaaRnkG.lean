/- Package rank: the walk of Circle. -/
import Derived.Test.YtcnnimhdnmmaoaaRnkF
import Derived.Deep.Cut
namespace Go.Proofs.Ytcnnimhdnmmaoaa
open Go.RowKit

/-- A list of threads as numbers. -/
def nums (l : List Nat) : List Int := List.map (fun x : Nat => (x : Int)) l
theorem nums_len (l : List Nat) : (nums l).length = l.length := by simp [nums]
theorem nums_app (l m : List Nat) : nums (l ++ m) = nums l ++ nums m := by simp [nums]
theorem own_lit1 (X : World) (e base : Nat) (v : Value) (hX : base ≤ X.heap.size) : (X.alloc (.cells #[v] e)).ownsRow base e 1 (.slice (some ⟨X.heap.size, 0, none⟩) 1 1) 1 [v] :=
  own_base ⟨by simp, Or.inr ⟨X.heap.size, 1, #[v], rfl, Nat.le_refl _, heap_alloc_new X _, Nat.le_refl _, by unfold maxLen; omega, by simp, by simp⟩⟩ hX
theorem lit1 (w : World) (a : Int) (T cap : Nat) : shI.At (w.alloc (.cells #[.int .i64 a] T)) (some ⟨w.heap.size, 0, none⟩) cap [a] :=
  Shape.At.lit [a] (heap_alloc_new w _)
theorem it_next {n K : Nat} {s : RkT} {f i t : Nat} (h : itK n K s f i = some t) {u : Nat} (hu : itK n K s f (i + 1) = some u) : nxI n K s t = u := by
  refine nxI_some ?_
  have : itK n K s f (i + 1) = sucK n K s t := by show (itK n K s f i).bind _ = _; rw [h]; rfl
  rw [← this]
  exact hu
theorem way_one (n K : Nat) (s : RkT) (f : Nat) : wayN n K s f 1 = [f] := rfl
/-- What Circle gives: a circle in a row. -/
def TellC (n K : Nat) (s : RkT) (w : World) (e : Ending) (w' : World) : Prop := ∃ ra rc pl, CirIs n K s pl ∧ pl.length ≤ n ∧ pl.length ≤ rc ∧ e = .returned (.slice ra pl.length rc) ∧ shI.At w' ra rc (nums pl) ∧ Below w.heap.size w w'
set_option maxHeartbeats 4000000 in
set_option maxRecDepth 100000 in
theorem circle_N {ha wa : Option Addr} {hc wc K n : Nat} {s : RkT} (w : World) (H1 : Hid (IntAt w ha hc K s.hold)) (H2 : Hid (IntAt w wa wc n s.wait)) (hn : n ≤ 17592186044415) :
    Calls Try.prog 13 #[.slice ha K hc, .slice wa n wc] w (TellC n K s w) := by
  obtain ⟨i0, hi, hz0, hz1, hz2⟩ := info_parts' info_int
  go_enter Try.func13, Try.ntmps13
  go_upto_region 3 with (first
    | (go_at_call 23; (with_reducible refine (successors_N _ H1 H2 (by omega)).mono ?_); rintro e w1 ⟨X, rfl, hX, rX, hb⟩; have B1 := Lib.hid hb; have R1 := Lib.hid rX; have I1 := Lib.hid (rX.at n); clear hb rX)
    | (go_at_call 24; (with_reducible refine (smallest_N _ I1 (by omega)).mono ?_); rintro e w2 ⟨r, hr, rfl, hb⟩; have B2 := Lib.hid (pstep B1.out hb); have R2 := Lib.hid (R1.out.step hb); have HR := Lib.hid hr; clear hb hr)
    | fail)
  rcases HR.out with ⟨rfl, hno⟩ | ⟨f, hf, rfl, hcy, hls⟩
  · have HN := Lib.hid hno
    clear hno
    go_wp2_with fail
    go_ret
    exact ⟨none, 0, [], cir_none HN.out, Nat.zero_le _, Nat.zero_le _, rfl, Shape.At.nil _, B2.out⟩
  · obtain ⟨j, hj0, hjn, hj1, hj2⟩ := cyc_soon hf hcy
    have HJ1 := Lib.hid hj1
    have HJ2 := Lib.hid hj2
    have HLS := Lib.hid hls
    obtain ⟨a1, ha1⟩ : ∃ a, itK n K s f 1 = some a := ⟨_, it_some hj1 1 hj0⟩
    have ha1n := it_lt hf ha1
    have x0 := R2.out.cell hf
    rw [it_next rfl ha1] at x0
    have hXl := R2.out.lt
    have HA1 := Lib.hid ha1
    have O2 := Lib.hid (own_lit1 w2 3 w2.heap.size (.int .i64 (f : Int)) (Nat.le_refl _))
    have L2 := Lib.hid (below_alloc w2 (.cells #[.int .i64 (f : Int)] 3))
    clear hj1 hj2 hls hcy HR ha1
    go_wp2_with fail
    go_loopg [7, 8] (j - (0 + 1)) (fun gk p c wr => ∃ (i a : Nat) (ra : Option Addr) (rc : Nat), gk = j - (i + 1) ∧ i + 1 ≤ j ∧ p = .slice ra (i + 1) rc ∧ c = .int .i64 a ∧ Hid (itK n K s f (i + 1) = some a) ∧ Hid (wr.ownsRow w2.heap.size 3 1 (.slice ra (i + 1) rc) (i + 1) (shI.flat (nums (wayN n K s f (i + 1))))) ∧ Hid (Below w2.heap.size w2 wr))
    case atStart => exact ⟨0, a1, _, _, rfl, hj0, rfl, rfl, HA1, O2, L2⟩
    case round =>
      clear O2 L2
      obtain ⟨i, a, ra, rc, hgk, hij, rfl, rfl, HIT, HO, HB⟩ := hrel
      have HGK := Lib.hid hgk
      clear hgk
      by_cases hlt : i + 1 < j
      · have haf : ¬ a = f := fun e => HJ2.out (i + 1) (by omega) hlt (by rw [HIT.out, e])
        have haf2 : ¬ (a : Int) = (f : Int) := by omega
        obtain ⟨a2, ha2⟩ : ∃ b, itK n K s f (i + 1 + 1) = some b := ⟨_, it_some HJ1.out _ hlt⟩
        have han := it_lt hf HIT.out
        have R3 := R2.out.step HB.out
        have y0 := R3.cell han
        rw [it_next HIT.out ha2] at y0
        have hX3 := R3.lt
        have HA2 := Lib.hid ha2
        have HLEN : Hid ((nums (wayN n K s f (i + 1))).length = i + 1) := Lib.hid (by rw [nums_len, way_len])
        have HEQ : Hid (nums (wayN n K s f (i + 1)) ++ [(a : Int)] = nums (wayN n K s f (i + 1 + 1))) := Lib.hid (by rw [way_succ f (i + 1), nums_app, itN_of HIT.out]; rfl)
        have O4 := Lib.hid (own_step HO.out (below_alloc wr (.cells #[.int .i64 (a : Int)] 3)))
        have B4 := Lib.hid (pstep HB.out (below_alloc wr (.cells #[.int .i64 (a : Int)] 3)))
        have X4 := Lib.hid (lit1 wr (a : Int) 3 1)
        have hbase : w2.heap.size ≤ (wr.alloc (.cells #[.int .i64 (a : Int)] 3)).heap.size := B4.out.size
        have RX := Lib.hid (rfl : X = X)
        clear ha2 haf R3
        go_wp2_with (first
          | (at_builtin; refine wpList_append_n shI rfl _ _ 24 rfl w2.heap.size 3 i0 _ 8 Try.underlying24 hi hz0 hz1 hz2 rfl (.slice ra (i + 1) rc) (i + 1) (nums (wayN n K s f (i + 1))) [(a : Int)] HLEN rfl O4.out (some ⟨wr.heap.size, 0, none⟩) 1 1 rfl (Lib.hid rfl) X4.out (by unfold maxLen; omega) (by omega) hbase ?_)
          | fail)
        intro ra5 rc5 w5 own5 grow5 _
        have B5 := Lib.hid (B4.out.grown grow5 B4.out.size (fun k hk => (own_lt O4.out hk).1))
        have O5 := Lib.hid own5
        rw [HEQ.out] at O5
        have R5 := R2.out.step B5.out
        have z0 := R5.cell han
        rw [it_next HIT.out HA2.out] at z0
        have hX5 := R5.lt
        clear own5 grow5 O4 X4 hbase R5 B4 y0
        go_wp2_with fail
        go_roundg (j - (i + 1 + 1))
        case measure => rw [HGK.out]; omega
        case rel => exact ⟨i + 1, a2, ra5, rc5, rfl, by omega, rfl, rfl, HA2, O5, B5⟩
      · obtain rfl : i + 1 = j := by omega
        obtain rfl : a = f := by have := HIT.out; rw [HJ1.out] at this; exact (Option.some.inj this).symm
        have HC := Lib.hid (cir_way hf hj0 HJ1.out HJ2.out HLS.out)
        clear hlt
        go_wp2_with fail
        go_ret
        have hl : (wayN n K s a (i + 1)).length = i + 1 := way_len _ _
        obtain ⟨_, _, hv5, hc5, _⟩ := own_shape HO.out
        simp only [Value.slice.injEq, true_and] at hv5
        obtain ⟨rfl, rfl⟩ := hv5
        refine ⟨ra, rc, _, HC.out, by rw [hl]; exact hjn, by rw [hl]; exact hc5, by rw [hl]; rfl, ?_, B2.out.trans (HB.out.mono B2.out.size)⟩
        exact Shape.At.own (S := shI) HO.out (by rw [nums_len, hl])
end Go.Proofs.Ytcnnimhdnmmaoaa
