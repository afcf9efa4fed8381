/- Package runq: slices.Backward over the rings' ends, and the walk of remaining (a range over a function, a chase of pointers within it). -/
import Derived.Test.YtgnpodeneknpdaaSofV
import Derived.Test.YtgnpodeneknpdaaSeqX
import Derived.Test.YtgnpodeneknpdaaRqG
import Derived.Stop.RegionWithIn
import Derived.Sort.LoopGhostIn
namespace Go.Proofs.Ytgnpodeneknpdaa
open Go.RowKit Go.Shelf Go.Maps

attribute [local go_sem] Oper.semAt_some

/-- From n - 1 down. -/
def downL : Nat → List Nat
  | 0 => []
  | n + 1 => n :: downL n
theorem downL_len : ∀ n, (downL n).length = n
  | 0 => rfl
  | n + 1 => by rw [downL, List.length_cons, downL_len n]
/-- The levels, from the last one down. -/
def downF : List (Fin 32) := (List.finRange 32).reverse
theorem downF_len : downF.length = 32 := by simp [downF]
theorem downF_val : downF.map (·.val) = downL 32 := by decide
theorem downF_at' : ∀ k : Fin 32, downF[k.val]? = some ⟨31 - k.val, by omega⟩ := by decide
theorem downF_at {q : Nat} (h : q < 32) : downF[31 - q]? = some ⟨q, h⟩ := by
  have := downF_at' ⟨31 - q, by omega⟩
  simp only at this
  rw [this]
  congr 2
  omega
/-- What the loop's body keeps: what was there, and the box of the iterator's slice. -/
def KeepB (n0 Bs : Nat) (A C : World) : Prop := Below n0 A C ∧ ∀ v, Boxed A Bs 80 v → Boxed C Bs 80 v
theorem KeepB.refl (n0 Bs : Nat) (A : World) : KeepB n0 Bs A A := ⟨Below.refl _ _, fun _ h => h⟩
theorem keepB_t {n0 Bs : Nat} {A C D : World} (h : KeepB n0 Bs A C) (k : KeepB n0 Bs C D) : KeepB n0 Bs A D := ⟨h.1.trans k.1, fun v hv => k.2 v (h.2 v hv)⟩
theorem keepB_b {n0 Bs : Nat} {w : World} (hn : n0 ≤ w.heap.size) (W : World) (l : Nat) (o o' : Obj) (hl : w.heap.size ≤ l) (h : W.heap[l]? = some o) (h1 : o.isCells = false) (h2 : o.isWalk = false) : KeepB n0 Bs W (W.putObj l o') :=
  ⟨belowK_b hn W l o o' hl h h1 h2, fun v hv => hv.kept (grownBy_putObj' W l o') (fun e => by
    cases e
    rw [show W.heap[Bs]? = _ from hv] at h
    cases h
    cases h1)⟩
set_option maxRecDepth 100000 in
set_option maxHeartbeats 2000000 in
/-- The iterator from the last one down. -/
theorem back_seq {B n0 : Nat} {e : Nat → Nat} (F : Fence) (n : Nat) (hf : F.fn 51) (hro : F.round = none) (hn : 1 ≤ n) (Bs : Nat) (w0 w : World) (HA : Hid (∀ j, j < 32 → w0.cell? ⟨B, j, none⟩ = some (.pointer (some ⟨e j, 0, none⟩)))) (hB : B < w0.heap.size) (h0s : Hid (w0.heap.size = n0)) (HB0 : Hid (Below n0 w0 w))
    (HC0 : Hid (Boxed w Bs 80 (.slice (some ⟨B, 0, none⟩) 32 32))) :
    SeqX F n Try.prog 51 #[.pointer (some ⟨Bs, 0, none⟩)] (fun x : Fin 32 => #[.int .i64 (x.val : Int), .pointer (some ⟨e x.val, 0, none⟩)]) (KeepB n0 Bs) downF w := by
  intro l J W hW hY h0
  have HY := Lib.hid hY
  have HB : Hid (Below n0 w0 W) := Lib.hid (HB0.out.trans (hW.mono (by have := HB0.out.size; have := h0s.out; omega)))
  have HC : Hid (Boxed W Bs 80 (.slice (some ⟨B, 0, none⟩) 32 32)) := Lib.hid (heap_step HC0.out hW)
  clear hW hY HB0 HC0
  have hc := HC.out.cell
  refine callsIn_of_wp Try.func51 rfl hf ?_ hro
  simp only [Try.ntmps51, List.size_toArray, List.length_cons, List.length_nil, Nat.reduceAdd, Nat.reduceSub, Array.replicate_succ, Array.replicate_zero, List.push_toArray, List.append_toArray, List.nil_append, List.cons_append]
  gi_wp2
  clear hc
  gi_loopw [3] (fun i wr => ((i = .int .i64 (-1) ∧ Hid (J downF wr)) ∨ (∃ q : Nat, q < 32 ∧ i = .int .i64 (q : Int) ∧ Hid (J (downF.take (31 - q)) wr))) ∧ Hid (KeepB n0 Bs W wr)) (fun i _ => (intOf i + 1).toNat)
  case atStart => exact ⟨Or.inr ⟨31, by omega, rfl, Lib.hid h0⟩, Lib.hid (KeepB.refl _ _ _)⟩
  case round =>
    obtain ⟨(⟨rfl, HJ⟩ | ⟨q, hq, rfl, HJ⟩), HK⟩ := hrel
    · gi_wp2
      go_end0
      exact ⟨⟨_, rfl⟩, HJ.out⟩
    · have hbx := HK.out.2 _ HC.out
      have hcx := hbx.cell
      have hlx := hbx.lt
      have hce := ((HB.out.trans HK.out.1).cell (p := ⟨B, q, none⟩) (by rw [← h0s.out]; exact hB)).trans (HA.out q hq)
      have hBr : B < wr.heap.size := Nat.lt_of_lt_of_le hB (HB.out.trans HK.out.1).size
      have hx := downF_at hq
      have hT : downF.take (31 - q) ++ [⟨q, hq⟩] = downF.take (31 - q + 1) := by rw [List.take_add_one, hx]; rfl
      have HT := Lib.hid hT
      have hpre : downF.take (31 - q) ++ [⟨q, hq⟩] <+: downF := by rw [hT]; exact List.take_prefix _ _
      obtain ⟨fn, tmps, assign, body, hy, hR⟩ := HY.out _ ⟨q, hq⟩ wr hpre HJ.out
      have hq0 : (0 : Int) ≤ (q : Int) := by omega
      have hq1 : (q : Int) < 32 := by omega
      have hq2 : ¬ (q : Int) < 0 := by omega
      clear hT hx hpre hbx
      obtain ⟨r, hwq⟩ : ∃ r, IntKind.i64.wrap ((q : Int) - 1) = r := ⟨_, rfl⟩
      have HWQ : Hid (r = (q : Int) - 1) := Lib.hid (by rw [← hwq, IntKind.wrap_i64]; omega)
      gi_wp2
      refine hR.mono ?_
      rintro e' W3 ⟨rfl, hJ3, hk3⟩
      have J3 := Lib.hid hJ3
      have K3 := Lib.hid (keepB_t HK.out hk3)
      clear hJ3 hk3
      gi_wp2
      go_roundw
      case rel =>
        refine ⟨?_, K3⟩
        have h := J3.out
        rw [HT.out] at h
        by_cases hz : q = 0
        · rw [List.take_of_length_le (by rw [downF_len]; omega)] at h
          exact Or.inl ⟨by rw [HWQ.out]; congr 1; omega, Lib.hid h⟩
        · rw [show 31 - q + 1 = 31 - (q - 1) by omega] at h
          exact Or.inr ⟨q - 1, by omega, by rw [HWQ.out]; congr 1; omega, Lib.hid h⟩
      case measure => have := HWQ.out; simp [intOf]; omega
end Go.Proofs.Ytgnpodeneknpdaa
