/- Package chain: the walk of call. -/
import Derived.Test.YtdpfffifhkndlaaChnB
import Derived.Test.YtdpfffifhkndlaaChainQ
namespace Go.Proofs.Ytdpfffifhkndlaa
open Go.RowKit

/-- What is in memory while handlers are called. -/
structure LpC (w wx : World) (B : Nat) (l : List HdT) (i : Nat) (v : Value) (m : Nat) : Prop where
  g : w.grownBy wx (some B)
  r : RowH wx B (mixI l i)
  o : wx.ownsRow w.heap.size 3 1 v m (shI.flat (intL (wakI 0 0 (l.take i))))
  lt : B < w.heap.size
section
variable {w wx wy : World} {B : Nat} {l : List HdT} {i m : Nat} {v : Value}
theorem LpC.neB (h : LpC w wx B l i v m) : ∀ g, v.ownBlock = some g → g ≠ B := fun g hg => by
  have := (own_lt h.o hg).1
  have := h.lt
  omega
theorem LpC.quiet (h : LpC w wx B l i v m) {f : HdT} (hf : l[i]? = some f) (h0 : f.left = 0) : LpC w wx B l (i + 1) v m :=
  ⟨h.g, by rw [mix_same hf h0]; exact h.r, by rw [wak_no hf (by omega)]; exact h.o, h.lt⟩
/-- Left is one less; who wakes is not written down yet. -/
structure LpD (w wx : World) (B : Nat) (l : List HdT) (i : Nat) (v : Value) (m : Nat) : Prop where
  g : w.grownBy wx (some B)
  r : RowH wx B (mixI l (i + 1))
  o : wx.ownsRow w.heap.size 3 1 v m (shI.flat (intL (wakI 0 0 (l.take i))))
  lt : B < w.heap.size
theorem grown_set {w wx : World} {B : Nat} (h : w.grownBy wx (some B)) (k : Nat) (v : Value) : w.grownBy (wx.setCell ⟨B, k, none⟩ v) (some B) :=
  ⟨h.os, h.tape, h.output, Nat.le_trans h.size (by simp), fun j hj hn => (Below.heap_setCell _ _ _ _ (fun e => hn (by simp only at e; rw [e]))).trans (h.block j hj hn)⟩
theorem LpC.less (h : LpC w wx B l i v m) {f : HdT} (hf : l[i]? = some f) (h0 : 0 < f.left) : LpD w (wx.setCell ⟨B, i * 2 + 1, none⟩ (.int .i64 (f.left - 1))) B l i v m :=
  ⟨grown_set h.g _ _, by rw [← mix_set hf, dec_one h0]; exact h.r.put1 (mix_here hf) _, own_set h.o h.neB _, h.lt⟩
theorem LpD.no (h : LpD w wx B l i v m) {f : HdT} (hf : l[i]? = some f) (h2 : ¬ f.says = 2) : LpC w wx B l (i + 1) v m :=
  ⟨h.g, h.r, by rw [wak_no hf (fun e => h2 e.2)]; exact h.o, h.lt⟩
theorem LpD.alloc (h : LpD w wx B l i v m) (o : Obj) : LpD w (wx.alloc o) B l i v m :=
  ⟨grown_below h.g ((below_alloc wx o).mono h.g.size), h.r.step (below_alloc _ _), own_step h.o (below_alloc _ _), h.lt⟩
/-- Two growings, of the row itself and of what came behind. -/
theorem grown_two {w w1 w2 : World} {r : Option Nat} {v : Value} (h1 : w.grownBy w1 r) (h2 : w1.grownBy w2 v.ownBlock) (hv : ∀ g, v.ownBlock = some g → w.heap.size ≤ g) : w.grownBy w2 r :=
  ⟨h2.os.trans h1.os, h2.tape.trans h1.tape, h2.output.trans h1.output, Nat.le_trans h1.size h2.size, fun k hk hr => (h2.block k (Nat.lt_of_lt_of_le hk h1.size) (fun e => by have := hv k e.symm; omega)).trans (h1.block k hk hr)⟩
theorem LpD.yes {v' : Value} {m' : Nat} (h : LpD w wx B l i v m) {f : HdT} (hf : l[i]? = some f) (h0 : 0 < f.left) (h2 : f.says = 2) (hg : wx.grownBy wy v.ownBlock) (ho : wy.ownsRow w.heap.size 3 1 v' m' (shI.flat (intL (wakI 0 0 (l.take i)) ++ [(i : Int)]))) : LpC w wy B l (i + 1) v' m' :=
  ⟨grown_two h.g hg (fun g e => (own_lt h.o e).1), h.r.same (hg.block B h.r.lt (fun e => by have := (own_lt h.o e.symm).1; have := h.lt; omega)), by rw [wak_yes hf ⟨by simpa using h0, h2⟩, intL_app]; exact ho, h.lt⟩
end
theorem call_start {w : World} {B : Nat} {l : List HdT} (r : RowH w B l) : LpC w w B l 0 (.slice none 0 0) 0 :=
  ⟨⟨rfl, rfl, rfl, Nat.le_refl _, fun _ _ _ => rfl⟩, by rw [mix_zero]; exact r, World.ownsRow_nil _ _ _ _, r.lt⟩
/-- What call answers. -/
def CallOut (w : World) (B : Nat) (l : List HdT) (cl : Bool) (e : Ending) (w' : World) : Prop :=
  ∃ wa wc, e = .returned (.tuple #[.slice wa (wakI 0 0 l).length wc, .bool cl]) ∧ shI.At w' wa wc (intL (wakI 0 0 l)) ∧ RowH w' B (l.map (decN 1)) ∧ w.grownBy w' (some B) ∧ ∀ a, wa = some a → w.heap.size ≤ a.block
set_option maxHeartbeats 1000000 in
set_option maxRecDepth 100000 in
theorem call_0 {ad : Option Addr} {cap : Nat} (w : World) :
    Calls Try.prog 22 #[.slice ad 0 cap] w fun e w' => e = .returned (.tuple #[.slice none 0 0, .bool false]) ∧ w = w' := by
  go_enter Try.func22, Try.ntmps22
  go_wp2_with fail
  go_loopw [4, 5, 9] (fun v c i wr => v = .slice none 0 0 ∧ c = .bool false ∧ i = .int .i64 0 ∧ w = wr) (fun _ _ _ _ => 0)
  case atStart => exact ⟨rfl, rfl, rfl, rfl⟩
  case round =>
    obtain ⟨rfl, rfl, rfl, rfl⟩ := hrel
    go_wp2_with fail
    refine bodyPost_ret (v := .tuple #[.slice none 0 0, .bool false]) (by simp [results, Try.results22, go_sem]) rfl ?_
    exact ⟨rfl, rfl⟩
set_option maxHeartbeats 2000000 in
set_option maxRecDepth 100000 in
theorem call_N {cap n B : Nat} {l : List HdT} (w : World) (HR : Hid (RowH w B l)) (hm : Hid (l.length = n)) (hn : n ≤ 16) (HRT : Hid (RtI l)) (cl : Bool) (HCL : Hid (cl = decide (0 < mostI l))) :
    Calls Try.prog 22 #[.slice (some ⟨B, 0, none⟩) n cap] w (CallOut w B l cl) := by
  obtain ⟨i0, hi, hz0, hz1, hz2⟩ := info_parts' info_int
  go_enter Try.func22, Try.ntmps22
  go_wp2_with fail
  go_loopw [4, 5, 9] (fun v c i wr => ∃ (k m wc : Nat) (wa : Option Addr) (b : Bool), k ≤ n ∧ i = .int .i64 k ∧ v = .slice wa m wc ∧ c = .bool b ∧ Hid (b = decide (0 < mostI (l.take k))) ∧ Hid ((intL (wakI 0 0 (l.take k))).length = m) ∧ Hid (LpC w wr B l k (.slice wa m wc) m)) (fun _ _ i _ => n - (intOf i).toNat)
  case atStart => exact ⟨0, 0, 0, none, false, Nat.zero_le _, rfl, rfl, rfl, Lib.hid (by simp [mostI]), Lib.hid rfl, Lib.hid (call_start HR.out)⟩
  case round =>
    obtain ⟨k, m, wc, wa, b, hk, rfl, rfl, rfl, HB, HM, HL⟩ := hrel
    by_cases hlt : k < n
    · obtain ⟨f, hf⟩ : ∃ f, l[k]? = some f := ⟨l[k]'(by rw [hm.out]; exact hlt), List.getElem?_eq_getElem _⟩
      have hc := HL.out.r.cells (mix_here hf)
      have fr := fun i => HL.out.r.frozen i
      obtain ⟨hs, h0, hM⟩ := rt_at HRT.out hf
      have HF := Lib.hid hf
      have hm16 : m ≤ 16 := by
        have h1 := wak_le 0 0 (l.take k)
        have h2 := HM.out
        rw [intL_len] at h2
        have h3 : (l.take k).length ≤ l.length := by rw [List.length_take]; omega
        have := hm.out
        omega
      by_cases hl0 : f.left = 0
      · have HL1 := Lib.hid (HL.out.quiet hf hl0)
        have HB1 : Hid (b = decide (0 < mostI (l.take (k + 1)))) := Lib.hid (by
          rw [HB.out, most_next hf]
          have := most_nonneg (l.take k)
          simp only [decide_eq_decide]
          omega)
        have HM1 : Hid ((intL (wakI 0 0 (l.take (k + 1)))).length = m) := Lib.hid (by rw [wak_no hf (by omega)]; exact HM.out)
        obtain ⟨x, y⟩ := f
        simp only at hl0 hc
        subst hl0
        clear hf h0 hM hs
        go_wp2_with fail
        go_roundw
        case rel => exact ⟨k + 1, m, wc, wa, b, by omega, by go_num, rfl, rfl, HB1, HM1, HL1⟩
        case measure => simp [intOf]; omega
      · have hp : 0 < f.left := by omega
        have HD := Lib.hid (HL.out.less hf hp)
        have HB1 : Hid (true = decide (0 < mostI (l.take (k + 1)))) := Lib.hid (by
          rw [most_next hf]
          exact (decide_eq_true (by omega)).symm)
        by_cases hx2 : f.says = 2
        · have HM1 : Hid ((intL (wakI 0 0 (l.take (k + 1)))).length = m + 1) := Lib.hid (by rw [wak_yes hf ⟨by simpa using hp, hx2⟩, intL_app, List.length_append, HM.out]; rfl)
          have HY : ∀ {wy : World} {v' : Value} {m' : Nat} {wx : World}, LpD w wx B l k (.slice wa m wc) m → wx.grownBy wy (Value.slice wa m wc).ownBlock → wy.ownsRow w.heap.size 3 1 v' m' (shI.flat (intL (wakI 0 0 (l.take k)) ++ [(k : Int)])) → LpC w wy B l (k + 1) v' m' := fun h g o => h.yes HF.out hp hx2 g o
          obtain ⟨x, y⟩ := f
          simp only at hl0 hc hx2 hp HD h0 hM
          have h0' : (y == 0) = false := by simpa using hl0
          subst hx2
          have HA := Lib.hid (HD.out.alloc (.cells #[.int .i64 (k : Int)] 3))
          have HK := Lib.hid (Shape.At.lit (S := shI) (cap := 1) [(k : Int)] (heap_alloc_new (wr.setCell ⟨B, k * 2 + 1, none⟩ (.int .i64 (y - 1))) (.cells #[.int .i64 (k : Int)] 3)))
          have hsz : w.heap.size ≤ ((wr.setCell ⟨B, k * 2 + 1, none⟩ (.int .i64 (y - 1))).alloc (.cells #[.int .i64 (k : Int)] 3)).heap.size := HA.out.g.size
          simp only [World.size_setCell] at HK
          clear hf hs
          go_wp2_with (first
            | (at_builtin; refine wpList_append_n shI rfl _ _ 25 rfl w.heap.size 3 i0 _ 8 Try.underlying25 hi hz0 hz1 hz2 rfl (.slice wa m wc) m (intL (wakI 0 0 (l.take k))) _ HM rfl HA.out.o (some ⟨wr.heap.size, 0, none⟩) 1 1 rfl (Lib.hid rfl) HK.out (by unfold maxLen; omega) (by omega) hsz ?_)
            | fail)
          intro ra rc w3 own3 grow3 _
          have HL1 := Lib.hid (HY HA.out grow3 own3)
          clear own3 grow3 HA HK HY HD
          go_wp2_with fail
          go_roundw
          case rel => exact ⟨k + 1, m + 1, rc, ra, true, by omega, by go_num, rfl, rfl, HB1, HM1, HL1⟩
          case measure => simp [intOf]; omega
        · have HL1 := Lib.hid (HD.out.no hf hx2)
          have HM1 : Hid ((intL (wakI 0 0 (l.take (k + 1)))).length = m) := Lib.hid (by rw [wak_no hf (fun e => hx2 e.2)]; exact HM.out)
          obtain ⟨x, y⟩ := f
          simp only at hl0 hc hx2 hp HD HL1 h0 hM
          have h0' : (y == 0) = false := by simpa using hl0
          have h2' : (x == 2) = false := by simpa using hx2
          clear hf hs
          go_wp2_with fail
          go_roundw
          case rel => exact ⟨k + 1, m, wc, wa, true, by omega, by go_num, rfl, rfl, HB1, HM1, HL1⟩
          case measure => simp [intOf]; omega
    · obtain rfl : k = n := by omega
      have e : l.take k = l := by rw [← hm.out, List.take_length]
      have hb : b = cl := by rw [HB.out, HCL.out, e]
      subst hb
      have hl := HM.out
      rw [e, intL_len] at hl
      subst hl
      have hL := HL.out
      have ho := hL.o
      have hr := hL.r
      rw [e] at ho
      rw [mix_all hm.out] at hr
      have HO := Lib.hid (Shape.At.own (S := shI) ho (intL_len _))
      have HRR := Lib.hid hr
      have hsh : ∀ a, wa = some a → w.heap.size ≤ a.block := fun a e => by
        obtain ⟨ad', cap', hv, _, _, _, h⟩ := own_shape HL.out.o
        simp only [Value.slice.injEq, true_and] at hv
        obtain ⟨g, hg, h1, _⟩ := h a (by rw [← hv.1]; exact e)
        rw [hg]
        exact h1
      have HSH := Lib.hid hsh
      clear hsh
      clear ho hr hL HM
      go_wp2_with fail
      refine bodyPost_ret (v := .tuple #[.slice wa (wakI 0 0 l).length wc, .bool b]) (by simp [results, Try.results22, go_sem]) rfl ?_
      exact ⟨wa, wc, rfl, HO.out, HRR.out, HL.out.g, HSH.out⟩
end Go.Proofs.Ytdpfffifhkndlaa
