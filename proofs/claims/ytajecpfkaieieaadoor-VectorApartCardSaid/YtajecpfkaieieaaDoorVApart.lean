/- The walk of VectorApart. -/
import Derived.Test.YtajecpfkaieieaaDoorVecAl
import Derived.Test.YtajecpfkaieieaaDoorVecMp
import Derived.Test.YtajecpfkaieieaaDoorVecO
import Derived.Deep.RegionHeld3
import Derived.BigRegion
import Derived.RegionTactic
namespace Go.Proofs.YtajecpfkaieieaaDoor
open Go.RowKit
open Go.ChangeMaps (setBlock)

set_option maxHeartbeats 1000000 in
set_option maxRecDepth 100000 in
theorem vapart_bad (w : World) (hT : Hid (Tab w)) (C N : Int) (v : Value) (h : C < 1 ∨ 8 < C ∨ N < 0 ∨ 2000 < N) :
    Calls Tryd.prog 4 #[.int .i64 C, .int .i64 N, v] w fun e w' => e = .returned (.bool true) ∧ Below w.heap.size w w' := by
  have HB := Lib.hid h
  clear h
  go_enter Tryd.func4, Tryd.ntmps4
  go_wp2_with (first
    | (go_at_call 9; (with_reducible refine (alive4_R _ hT).mono ?_); rintro e w1 ⟨rfl, hb⟩; have B1 := hb; clear hb)
    | (go_at_call 5; (with_reducible refine (play_bad C N _ _ HB.out).mono ?_); rintro e w2 ⟨rfl, hb⟩; have B2 := pstep B1 hb; clear hb)
    | fail)
  go_ret
  exact ⟨rfl, B2⟩
/-- The slots that are there, the last one first. -/
def seenV (l : List SlotT) : List SlotT := (l.filter fun s => decide (0 < s.vec)).reverse
theorem seenV_snoc (l : List SlotT) (s : SlotT) : seenV (l ++ [s]) = if 0 < s.vec then s :: seenV l else seenV l := by
  unfold seenV
  by_cases h : 0 < s.vec <;> simp [List.filter_append, h]
theorem seenV_small {cores : Nat} {l : List SlotT} (h : GoodV cores l) (h8 : cores ≤ 8) (k : Nat) : SmallV (seenV (l.take k)) := by
  intro s hs
  simp only [seenV, List.mem_reverse, List.mem_filter] at hs
  obtain ⟨i, hi, e⟩ := List.getElem_of_mem (List.mem_of_mem_take hs.1)
  rcases h.1 i s (by rw [List.getElem?_eq_getElem hi, e]) with rfl | ⟨g1, g2, g3⟩
  · simp [zs]
  · omega
theorem seenV_not {cores : Nat} {l : List SlotT} {s : SlotT} {k : Nat} (h : GoodV cores l) (hk : l[k]? = some s) (hv : 0 < s.vec) : s ∉ seenV (l.take k) := by
  intro hs
  simp only [seenV, List.mem_reverse, List.mem_filter] at hs
  obtain ⟨i, hi, e⟩ := List.getElem_of_mem hs.1
  have hi' : i < k := by rw [List.length_take] at hi; omega
  have : l[i]? = some s := by
    rw [← e, List.getElem_take]
    exact List.getElem?_eq_getElem _
  have := h.2 i k s this hk hv
  omega
/-- A block of one's own is written whole. -/
theorem below_block {W w : World} (h : Below W.heap.size W w) {b : Nat} (hb : W.heap.size ≤ b) (o : Obj) : Below W.heap.size W (setBlock w b o) :=
  h.trans ⟨rfl, rfl, rfl, by simp [setBlock], fun k hk => by
    simp only [setBlock]
    rw [Array.getElem?_setIfInBounds_ne (by omega)]⟩
theorem cell_block (w : World) (b : Nat) (o : Obj) (c i : Nat) (h : c ≠ b) : (setBlock w b o).cell? ⟨c, i, none⟩ = w.cell? ⟨c, i, none⟩ := by
  have : (setBlock w b o).heap[c]? = w.heap[c]? := by
    simp only [setBlock]
    rw [Array.getElem?_setIfInBounds_ne (fun e => h e.symm)]
  simp only [World.cell?, this]
/-- What 'had[x]++' does, in whichever order. -/
theorem mp_count (w : World) (b x : Nat) (L : List SlotT) (s : SlotT) (hL : SmallV L) (hs : SmallV [s]) (hn : s ∉ L) (h : MapV w b L) (hx : x ≠ b)
    (c0 : w.cell? ⟨x, 0, none⟩ = some (.int .i64 (s.core : Int))) (c1 : w.cell? ⟨x, 1, none⟩ = some (.int .i64 (s.vec : Int))) :
    ∃ w1 w2, (Instr.lookup 34 (.map (some b)) (.agg #[.int .i64 (s.core : Int), .int .i64 (s.vec : Int)]) false).run Tryd.prog w = .ok (.int .i64 0) w ∧
      (Instr.mapEntry 34 (.map (some b)) (.agg #[.int .i64 (s.core : Int), .int .i64 (s.vec : Int)])).run Tryd.prog w = .ok (.tuple #[.int .i64 0, .int .i64 (L.length : Int)]) w1 ∧
      (Instr.lookup 34 (.map (some b)) (.agg #[.int .i64 (s.core : Int), .int .i64 (s.vec : Int)]) false).run Tryd.prog w1 = .ok (.int .i64 0) w1 ∧
      (Instr.entryStore 34 (.map (some b)) (.int .i64 (L.length : Int)) (.int .i64 1)).run Tryd.prog w1 = .ok () w2 ∧
      (Instr.lookup 34 (.map (some b)) (.agg #[.int .i64 (s.core : Int), .int .i64 (s.vec : Int)]) false).run Tryd.prog w2 = .ok (.int .i64 1) w2 ∧
      w2.cell? ⟨x, 0, none⟩ = some (.int .i64 (s.core : Int)) ∧ w2.cell? ⟨x, 1, none⟩ = some (.int .i64 (s.vec : Int)) ∧ MapV w2 b (s :: L) ∧ w2.heap.size = w.heap.size ∧
      ∀ W : World, Below W.heap.size W w → W.heap.size ≤ b → Below W.heap.size W w2 := by
  have hlt : b < w.heap.size := (Array.getElem?_eq_some_iff.1 h).1
  obtain ⟨w1, e1⟩ : ∃ w1, w1 = setBlock w b (.map (entsV L ++ [lastV s 0 L.length]).toArray (L.length + 1)) := ⟨_, rfl⟩
  obtain ⟨w2, e2⟩ : ∃ w2, w2 = setBlock w1 b (.map (entsV L ++ [lastV s 1 L.length]).toArray (L.length + 1)) := ⟨_, rfl⟩
  have z1 : MapZ w1 b L s 0 := by rw [e1]; simp [MapZ, setBlock, hlt]
  have hlt1 : b < w1.heap.size := (Array.getElem?_eq_some_iff.1 z1).1
  have z2 : MapZ w2 b L s 1 := by rw [e2]; simp [MapZ, setBlock, hlt1]
  refine ⟨w1, w2, mp_look0 hL hs hn h, ?_, mp_lookZ hL hs hn z1, ?_, mp_lookZ hL hs hn z2, ?_, ?_, z2, ?_, ?_⟩
  · rw [e1]; exact mp_entry hL hs hn h
  · rw [e2]; exact mp_store z1
  · rw [e2, cell_block _ _ _ _ _ hx, e1, cell_block _ _ _ _ _ hx]; exact c0
  · rw [e2, cell_block _ _ _ _ _ hx, e1, cell_block _ _ _ _ _ hx]; exact c1
  · rw [e2, e1]; simp [setBlock]
  · intro W hb hW
    rw [e2, e1]
    exact below_block (below_block hb hW _) hW _
set_option maxHeartbeats 2000000 in
set_option maxRecDepth 100000 in
theorem vapart_main {ad : Option Addr} {cap m : Nat} {ops : List VopT} (w : World) (hT : Hid (Tab w)) (cores n : Nat) (h1 : 1 ≤ cores) (h8 : cores ≤ 8) (hn : n ≤ 2000) (HA : Hid (shO.At w ad cap ops)) (hm : Hid (ops.length = m)) (hm2 : m ≤ 5864062014805) (l : List SlotT) (es : List Int) (HR : Hid (runV cores n ops = (l, es))) :
    Calls Tryd.prog 4 #[.int .i64 cores, .int .i64 n, .slice ad m cap] w fun e w' => e = .returned (.bool true) ∧ Below w.heap.size w w' := by
  have hg := run_good cores n ops
  rw [HR.out] at hg
  simp only at hg
  obtain ⟨hg1, hg2, _⟩ := hg
  have HG := Lib.hid hg1
  have HL := Lib.hid hg2
  clear hg1 hg2
  have hmm := @run_makeMap Tryd.prog
  go_enter Tryd.func4, Tryd.ntmps4
  go_wp2_with (first
    | (go_at_call 9; (with_reducible refine (alive4_R _ hT).mono ?_); rintro e w1 ⟨rfl, hb⟩; have B1 := hb; have HA1 := Lib.hid (HA.out.step hb); have HT1 := Lib.hid (tab_step hT.out hb); clear hb)
    | (go_at_call 5; (with_reducible refine (play_ok _ HT1 cores n h1 h8 hn HA1 hm hm2 l es HR).mono ?_); rintro e w2 ⟨ea, ec, sa, sc, rfl, EA, SA, hb⟩; have B2 := pstep B1 hb; have HS2 := Lib.hid SA; clear hb EA SA)
    | fail)
  clear hmm
  have M0 : MapV (w2.alloc (.map #[] 0)) w2.heap.size (seenV (l.take 0)) := by
    have e : (w2.alloc (.map #[] 0)).heap[w2.heap.size]? = some (.map #[] 0) := (MapKept.heap_alloc w2 _).1
    exact e
  go_loopw [31] (fun i wr => ∃ k : Nat, k ≤ n ∧ i = .int .i64 k ∧ MapV wr w2.heap.size (seenV (l.take k)) ∧ Below w2.heap.size w2 wr) (fun i _ => n - (intOf i).toNat)
  case atStart => exact ⟨0, Nat.zero_le _, rfl, M0, below_alloc _ _⟩
  case round =>
    clear M0
    obtain ⟨k, hk, rfl, HM, BB⟩ := hrel
    by_cases hlt : k < n
    · obtain ⟨s, hs⟩ : ∃ s, l[k]? = some s := ⟨l[k]'(by rw [HL.out]; exact hlt), List.getElem?_eq_getElem _⟩
      have hts : l.take (k + 1) = l.take k ++ [s] := by
        rw [List.take_add_one, hs]; rfl
      have hsm := seenV_small HG.out h8 k
      have hss : SmallV [s] := by
        intro t ht
        rw [List.mem_singleton] at ht
        subst ht
        rcases HG.out.1 k _ hs with rfl | ⟨g1, g2, g3⟩
        · simp [zs]
        · omega
      have hno := fun hv => seenV_not HG.out hs hv
      have hrg := HG.out.1 k _ hs
      have hsn := seenV_snoc (l.take k) s
      obtain ⟨sb, so, hsa, hsb, g0, g1⟩ := at_slot (HS2.out.step BB) hs
      subst hsa
      by_cases hv : 0 < s.vec
      · have hrg2 : s.core < cores ∧ 32 ≤ s.vec ∧ s.vec < 256 := by
          rcases hrg with rfl | g
          · simp [zs] at hv
          · exact g
        rw [if_pos hv, ← hts] at hsn
        obtain ⟨c, v⟩ := s
        simp only at hv hrg2 g0 g1
        obtain ⟨hr1, hr2, hr3⟩ := hrg2
        obtain ⟨wx, hwx⟩ : ∃ wx, wx = wr.alloc (.cells #[.int .i64 (c : Int), .int .i64 (v : Int)] 31) := ⟨_, rfl⟩
        have hMx : MapV wx.drew w2.heap.size (seenV (l.take k)) := by
          have hlt' : w2.heap.size < wr.heap.size := (Array.getElem?_eq_some_iff.1 HM).1
          rw [hwx]
          exact (Below.heap_alloc _ _ _ hlt').trans HM
        have hszx : w2.heap.size < wr.heap.size := (Array.getElem?_eq_some_iff.1 HM).1
        have cx0 : wx.cell? ⟨wr.heap.size, 0, none⟩ = some (.int .i64 (c : Int)) := by rw [hwx]; simp
        have cx1 : wx.cell? ⟨wr.heap.size, 1, none⟩ = some (.int .i64 (v : Int)) := by rw [hwx]; simp
        have BX : Below w2.heap.size w2 wx.drew := by rw [hwx]; exact (BB.alloc (by omega) _).drew
        obtain ⟨u1, u2, q1, q2, q3, q4, q5, d0, d1, HM2, hsz2, hbb⟩ := mp_count wx.drew w2.heap.size wr.heap.size (seenV (l.take k)) ⟨c, v⟩ hsm hss (hno hv) hMx (by omega) (by simpa using cx0) (by simpa using cx1)
        rw [← hsn] at HM2
        have HM3 := Lib.hid HM2
        have B3 := Lib.hid (hbb w2 BX (Nat.le_refl _))
        subst hwx
        clear HM2 hbb hMx BX hsn hno hss hsm hts HM BB hrg hs
        simp only at q1 q2 q3 q4 q5 d0 d1
        go_upto_region 13 with (fail)
        go_region
        all_goals
          go_wp2_with fail
          go_roundw
          case rel => exact ⟨k + 1, by omega, by go_num, HM3.out, B3.out⟩
          case measure => simp [intOf]; omega
      · obtain ⟨c, v⟩ := s
        simp only at hv g0 g1
        have hz : c = 0 ∧ v = 0 := by
          rcases hrg with e | g
          · simpa [zs] using e
          · simp only at g; omega
        obtain ⟨rfl, rfl⟩ := hz
        rw [if_neg (by simp), ← hts] at hsn
        have hM2 : MapV (wr.alloc (.cells #[.int .i64 ((0 : Nat) : Int), .int .i64 ((0 : Nat) : Int)] 31)) w2.heap.size (seenV (l.take (k + 1))) := by
          rw [hsn]
          exact (Below.heap_alloc _ _ _ ((Array.getElem?_eq_some_iff.1 HM).1)).trans HM
        have HM3 := Lib.hid hM2
        have B3 := Lib.hid (BB.alloc BB.size (.cells #[.int .i64 ((0 : Nat) : Int), .int .i64 ((0 : Nat) : Int)] 31))
        clear hM2 hsn hno hss hsm hts HM BB hrg hs
        go_wp2_with fail
        go_roundw
        case rel => exact ⟨k + 1, by omega, by go_num, HM3.out, B3.out⟩
        case measure => simp [intOf]; omega
    · obtain rfl : k = n := by omega
      clear hlt hk HM
      go_wp2_with fail
      go_ret
      exact ⟨rfl, pstep B2 BB⟩
theorem vectorApart_walk (C N : Int) (v : Value) (W : World) (hv : ArgV W v) (hl : lenOf v ≤ 5864062014805) (hT : Tab W) :
    Calls Tryd.prog 4 #[.int .i64 C, .int .i64 N, v] W fun e w' => e = .returned (.bool true) ∧ Below W.heap.size W w' := by
  by_cases hb : C < 1 ∨ 8 < C ∨ N < 0 ∨ 2000 < N
  · exact vapart_bad W (Lib.hid hT) C N v hb
  obtain ⟨ad, cap, ops, rfl, h⟩ := hv
  obtain ⟨c, rfl⟩ : ∃ c : Nat, C = c := ⟨C.toNat, by omega⟩
  obtain ⟨n, rfl⟩ : ∃ n : Nat, N = n := ⟨N.toNat, by omega⟩
  obtain ⟨⟨l, es⟩, hr⟩ : ∃ r, runV c n ops = r := ⟨_, rfl⟩
  exact vapart_main W (Lib.hid hT) c n (by omega) (by omega) (by omega) (Lib.hid h) (Lib.hid rfl) hl l es (Lib.hid hr)
end Go.Proofs.YtajecpfkaieieaaDoor

