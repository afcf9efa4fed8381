/- Package chain: the walk of corebellref.IPlay. -/
import Derived.Test.YtdpfffifhkndlaaChnF
import Derived.Lib.MinMax
namespace Go.Proofs.Ytdpfffifhkndlaa
open Go.RowKit

theorem most_cap {l : List HdT} {k : Nat} {f : HdT} (hf : l[k]? = some f) : min (mostI (l.take (k + 1))) 1000 = max (min (mostI (l.take k)) 1000) (min f.left 1000) := by
  rw [most_next hf]; omega
theorem came_cap {l : List HdT} {T cm : Nat} (hT : T ≤ 400) (hc : cameI l T = cm) : min (T : Int) (min (mostI l) 1000 + 5) = (cm : Int) := by
  have := most_nonneg l
  unfold cameI at hc
  split at hc <;> omega
theorem nob_cap {l : List HdT} {T cm : Nat} (hT : T ≤ 400) (hc : cameI l T = cm) : max ((cm : Int) - min (mostI l) 1000) 0 = (talI l cm).nobody := by
  have := most_nonneg l
  unfold cameI at hc
  unfold talI
  simp only
  split at hc <;> split <;> omega
theorem off_cap (l : List HdT) (cm : Nat) : ((talI l cm).nobody == 5) = (talI l cm).off := by
  have := most_nonneg l
  unfold talI
  simp only
  rw [Bool.eq_iff_iff, decide_eq_true_eq, beq_iff_eq]
  split <;> omega
theorem dec_cap {f : HdT} (cm : Nat) : f.left - min f.left (cm : Int) = (decN cm f).left := by
  unfold decN
  simp only
  split <;> omega
/-- What IPlay answers. -/
def IPlayOut (w : World) (n : Nat) (l : List HdT) (t : Nat) (e : Ending) (w' : World) : Prop :=
  ∃ ra rc wa wc, e = .returned (.tuple #[.slice ra n rc, .slice wa (waksI l t).length wc, .agg #[.int .i64 (talI l t).came, .int .i64 (talI l t).nobody, .bool (talI l t).off]]) ∧ shH.At w' ra rc (l.map (decN t)) ∧ shI.At w' wa wc (intL (waksI l t)) ∧ Below w.heap.size w w'
theorem take_mapN {l : List HdT} {k c : Nat} {f : HdT} (hf : l[k]? = some f) : (l.map (decN c)).take (k + 1) = (l.map (decN c)).take k ++ [decN c f] :=
  take_next (by rw [List.getElem?_map, hf]; rfl)
theorem iplay_end {M : Nat} {w w1 wr : World} {ra wa : Option Addr} {rc wc n m t : Nat} {l : List HdT} (hl : l.length = n) (hm : (intL (waksI l t)).length = m) (h : LpS M w1 wr (.slice ra n rc) n (l.map (decN t)) (.slice wa m wc) m (intL (waksI l t))) (hb : Below w.heap.size w wr) (nb : Int) (of : Bool) (h1 : (talI l t).nobody = nb) (h2 : (talI l t).off = of) (hz : wr.heap[w.heap.size]? = some (.cells #[.int .i64 0, .int .i64 0, .bool false] 24 (0, 0))) :
    IPlayOut w n l t (.returned (.tuple #[.slice ra n rc, .slice wa m wc, .agg #[.int .i64 (t : Int), .int .i64 nb, .bool of]])) (((wr.drew.setCell ⟨w.heap.size, 0, none⟩ (.int .i64 (t : Int))).setCell ⟨w.heap.size, 1, none⟩ (.int .i64 nb)).setCell ⟨w.heap.size, 2, none⟩ (.bool of)) := by
  subst h1 h2
  have h' := h.step (Below.refl _ wr).drew
  have n0 := own_ne h'.out hz (by decide)
  have n1 := own_ne h'.wk hz (by decide)
  have hm' := hm
  rw [intL_len] at hm'
  subst hm'
  exact ⟨ra, rc, wa, wc, rfl, Shape.At.own (S := shH) (own_set (own_set (own_set h'.out n0 _) n0 _) n0 _) (by rw [List.length_map]; exact hl), Shape.At.own (S := shI) (own_set (own_set (own_set h'.wk n1 _) n1 _) n1 _) (intL_len _), set3_below _ _ _ hb.drew (Nat.le_refl _)⟩
/-- The boxes while IPlay runs. -/
structure Bp (w wx : World) (TB : Nat) (c nb : Int) (of : Bool) : Prop where
  b : Below w.heap.size w wx
  lt : w.heap.size < TB
  z : wx.heap[w.heap.size]? = some (.cells #[.int .i64 0, .int .i64 0, .bool false] 24 (0, 0))
  t : wx.heap[TB]? = some (.cells #[.int .i64 c, .int .i64 nb, .bool of] 24 (0, 0))
theorem Bp.step {w wx wy : World} {TB : Nat} {c nb : Int} {of : Bool} (h : Bp w wx TB c nb of) (hb : Below wx.heap.size wx wy) : Bp w wy TB c nb of := ⟨pstep h.b hb, h.lt, heap_step h.z hb, heap_step h.t hb⟩
theorem Bp.cells {w wx : World} {TB : Nat} {c nb : Int} {of : Bool} (h : Bp w wx TB c nb of) : (wx.cell? ⟨w.heap.size, 0, none⟩ = some (.int .i64 0) ∧ wx.cell? ⟨w.heap.size, 1, none⟩ = some (.int .i64 0) ∧ wx.cell? ⟨w.heap.size, 2, none⟩ = some (.bool false)) ∧ (wx.cell? ⟨TB, 0, none⟩ = some (.int .i64 c) ∧ wx.cell? ⟨TB, 1, none⟩ = some (.int .i64 nb) ∧ wx.cell? ⟨TB, 2, none⟩ = some (.bool of)) ∧ (∀ i, wx.frozen? ⟨w.heap.size, i, none⟩ = false) :=
  ⟨trio_at h.z, trio_at h.t, fun i => frozen_of_row _ _ i _ _ h.z⟩
theorem lps_new (X : World) (M : Nat) (hM : X.heap.size = M) : LpS M X (X.alloc (.cells #[] 32)) (.slice (some ⟨M, 0, none⟩) 0 0) 0 [] (.slice none 0 0) 0 [] := by
  subst hM
  exact ⟨below_alloc _ _, World.ownsRow_made X #[] 0 (Nat.le_refl _) (by decide) rfl, World.ownsRow_nil _ _ _ _, by simp⟩
theorem lps_below {M : Nat} {X wx : World} {vo vw : Value} {n m : Nat} {xs : List HdT} {ws : List Int} (h : LpS M X wx vo n xs vw m ws) (hM : X.heap.size = M) : Below X.heap.size X wx := by rw [hM]; exact h.b
theorem waks_le' {l : List HdT} {N n : Nat} (hl : l.length = n) (hn : n ≤ 16) (hk : N ≤ 400) : (waksI l N).length ≤ 6400 := by
  have : ∀ k, (waksI l k).length ≤ k * l.length := fun k => by
    induction k with
    | zero => exact Nat.zero_le _
    | succ k ih =>
      rw [waksI, List.length_append, Nat.add_mul, Nat.one_mul]
      exact Nat.add_le_add ih (wak_le k 0 l)
  have h1 := this N
  have h2 := Nat.mul_le_mul hk (show l.length ≤ 16 by omega)
  omega
theorem waks_part {l : List HdT} {N k : Nat} {f : HdT} (hf : l[k]? = some f) (h : ((N : Int) < f.left) ∧ f.says = 2) : intL (waksI l N ++ wakI N 0 (l.take (k + 1))) = intL (waksI l N ++ wakI N 0 (l.take k)) ++ [(k : Int)] := by
  rw [wak_yes hf h, ← List.append_assoc, intL_app (waksI l N ++ wakI N 0 (l.take k))]; rfl
theorem waks_part_no {l : List HdT} {N k : Nat} {f : HdT} (hf : l[k]? = some f) (h : ¬ (((N : Int) < f.left) ∧ f.says = 2)) : waksI l N ++ wakI N 0 (l.take (k + 1)) = waksI l N ++ wakI N 0 (l.take k) := by
  rw [wak_no hf h]
set_option maxHeartbeats 4000000 in
set_option maxRecDepth 100000 in
theorem iplay_N {ad : Option Addr} {cap n : Nat} {l : List HdT} (T : Nat) (w : World) (HA : Hid (shH.At w ad cap l)) (hm : Hid (l.length = n)) (HRT : Hid (RtI l)) (hT : T ≤ 400) (cm : Nat) (HC : Hid (cameI l T = cm)) :
    Calls Try.prog 15 #[.slice ad n cap, .int .i64 T] w (IPlayOut w n l cm) := by
  have B0 := Lib.hid (below_alloc w (.cells #[.int .i64 0, .int .i64 0, .bool false] 24))
  have Z0 := Lib.hid (heap_alloc_new w (.cells #[.int .i64 0, .int .i64 0, .bool false] 24))
  have HA0 := Lib.hid (HA.out.step B0.out)
  have hn16 : n ≤ 16 := by rw [← hm.out]; exact HRT.out.1
  have hcm4 : cm ≤ 400 := by
    have h1 := HC.out
    have := most_nonneg l
    unfold cameI at h1
    split at h1 <;> omega
  obtain ⟨i0, hi, hz0, hz1, hz2⟩ := info_parts' info_int
  obtain ⟨i1, hi1, hy0, hy1, hy2⟩ := info_parts' info_handler
  obtain ⟨nb, hnbE⟩ : ∃ nb, (talI l cm).nobody = nb := ⟨_, rfl⟩
  obtain ⟨of, hofE⟩ : ∃ of, (talI l cm).off = of := ⟨_, rfl⟩
  have HNE := Lib.hid hnbE
  have HOE := Lib.hid hofE
  have HNB : Hid (max ((cm : Int) - min (mostI l) 1000) 0 = nb) := Lib.hid (by rw [nob_cap hT HC.out, hnbE])
  have HOF : Hid ((nb == 5) = of) := Lib.hid (by rw [← hnbE, ← hofE]; exact off_cap l cm)
  clear hnbE hofE
  go_enter Try.func15, Try.ntmps15
  go_wp2_with fail
  go_loopw [7, 20] (fun mo i wr => ∃ (k : Nat) (mm : Int), k ≤ n ∧ i = .int .i64 k ∧ mo = .int .i64 mm ∧ Hid (mm = min (mostI (l.take k)) 1000) ∧ Hid (Below (w.alloc (.cells #[.int .i64 0, .int .i64 0, .bool false] 24)).heap.size (w.alloc (.cells #[.int .i64 0, .int .i64 0, .bool false] 24)) wr)) (fun _ i _ => n - (intOf i).toNat)
  case atStart => exact ⟨0, 0, Nat.zero_le _, rfl, rfl, Lib.hid (by simp only [List.take_zero, mostI]; omega), Lib.hid (Below.refl _ _)⟩
  case round =>
    obtain ⟨k, mm, hk, rfl, rfl, HM, HB⟩ := hrel
    by_cases hlt : k < n
    · obtain ⟨f, hf⟩ : ∃ f, l[k]? = some f := ⟨l[k]'(by rw [hm.out]; exact hlt), List.getElem?_eq_getElem _⟩
      obtain ⟨b, off, rfl, hb, c0, c1⟩ := at_hd (HA0.out.step HB.out) hf
      obtain ⟨hs, h0, hM⟩ := rt_at HRT.out hf
      have HF := Lib.hid hf
      obtain ⟨x, y⟩ := f
      simp only at c0 c1 h0 hM
      have BN := Lib.hid (pstep HB.out (below_alloc wr (.cells #[.int .i64 x, .int .i64 y] 32)))
      clear hf
      go_wp2_with fail
      go_roundw
      case rel => exact ⟨k + 1, _, by omega, by go_num, rfl, Lib.hid (by rw [most_cap HF.out, HM.out]), BN⟩
      case measure => simp [intOf]; omega
    · obtain rfl : n = k := by omega
      have e : l.take n = l := by rw [← hm.out, List.take_length]
      rw [e] at HM
      have hcm : min (T : Int) (mm + 5) = (cm : Int) := by rw [HM.out]; exact came_cap hT HC.out
      have hnb : max ((cm : Int) - mm) 0 = nb := by rw [HM.out]; exact HNB.out
      have hof := HOF.out
      have hmm0 : 0 ≤ mm := by rw [HM.out]; have := most_nonneg l; omega
      have hmm1 : mm ≤ 1000 := by rw [HM.out]; omega
      have hsz : w.heap.size < wr.heap.size := by have := HB.out.size; simp at this; omega
      have P1 : Bp w (wr.alloc (.cells #[.int .i64 (cm : Int), .int .i64 nb, .bool of] 24)) wr.heap.size (cm : Int) nb of := ⟨pstep (pstep B0.out HB.out) (below_alloc _ _), hsz, heap_step (heap_step Z0.out HB.out) (below_alloc _ _), heap_alloc_new _ _⟩
      have HP1 := Lib.hid P1
      have HA1 := Lib.hid ((HA0.out.step HB.out).step (below_alloc wr (.cells #[.int .i64 (cm : Int), .int .i64 nb, .bool of] 24)))
      have HE : Hid ((wr.alloc (.cells #[.int .i64 (cm : Int), .int .i64 nb, .bool of] 24)).heap.size = wr.heap.size + 1) := Lib.hid (by simp)
      have L1 := Lib.hid (lps_new (wr.alloc (.cells #[.int .i64 (cm : Int), .int .i64 nb, .bool of] 24)) (wr.heap.size + 1) HE.out)
      clear P1
      go_wp2_with fail
      generalize (wr.alloc (.cells #[.int .i64 (cm : Int), .int .i64 nb, .bool of] 24)) = X at HP1 HA1 L1 HE ⊢
      clear hnb hof hcm
      clear HB hsz
      generalize wr.heap.size = TB at HP1 HA1 L1 HE ⊢
      go_loopw [11, 48] (fun vo i wr => ∃ (k rc : Nat) (ra : Option Addr), k ≤ n ∧ i = .int .i64 k ∧ vo = .slice ra k rc ∧ Hid (LpS (TB + 1) X wr (.slice ra k rc) k ((l.map (decN cm)).take k) (.slice none 0 0) 0 [])) (fun _ i _ => n - (intOf i).toNat)
      case atStart => exact ⟨0, 0, _, Nat.zero_le _, rfl, rfl, L1⟩
      case round =>
        obtain ⟨k, rc, ra, hk2, rfl, rfl, HL⟩ := hrel
        by_cases hlt2 : k < n
        · obtain ⟨f, hf⟩ : ∃ f, l[k]? = some f := ⟨l[k]'(by rw [hm.out]; exact hlt2), List.getElem?_eq_getElem _⟩
          obtain ⟨b, off, rfl, hb, c0, c1⟩ := at_hd (HA1.out.step (lps_below HL.out HE.out)) hf
          obtain ⟨hs, h0, hM⟩ := rt_at HRT.out hf
          have hdc := dec_cap (f := f) cm
          have hd0 : (decN cm f).says = f.says := rfl
          obtain ⟨yy, hyy⟩ : ∃ yy, (decN cm f).left = yy := ⟨_, rfl⟩
          have HMO : Hid (((l.map (decN cm)).take k).length = k) := Lib.hid (take_len (f := decN cm f) (by rw [List.getElem?_map, hf]; rfl))
          have HT : Hid ((l.map (decN cm)).take k ++ [⟨f.says, yy⟩] = (l.map (decN cm)).take (k + 1)) := Lib.hid (by rw [take_mapN hf, ← hyy]; rfl)
          obtain ⟨x, y⟩ := f
          simp only at c0 c1 h0 hM hdc HT
          rw [hyy] at hdc
          clear hf hyy hd0 hs
          have PX := HP1.out.step (lps_below HL.out HE.out)
          obtain ⟨_, ⟨p0, _, _⟩, _⟩ := (PX.step (below_alloc wr (.cells #[.int .i64 x, .int .i64 y] 32))).cells
          have LA := Lib.hid ((HL.out.step (below_alloc wr (.cells #[.int .i64 x, .int .i64 yy] 32))).step (below_alloc _ (.cells #[.int .i64 x, .int .i64 yy] 32)))
          have HK := Lib.hid (hd_lit (wr.alloc (.cells #[.int .i64 x, .int .i64 yy] 32)) x yy 1)
          simp only [World.size_alloc] at HK
          go_wp2_with (first
            | (at_builtin; refine wpList_append_n shH rfl _ _ 22 rfl (TB + 1) 32 i1 _ 16 Try.underlying22 hi1 hy0 hy1 hy2 rfl (.slice ra k rc) k ((l.map (decN cm)).take k) _ HMO rfl LA.out.out (some ⟨wr.heap.size + 1, 0, none⟩) 1 1 rfl (Lib.hid rfl) HK.out (by unfold maxLen; omega) (by omega) LA.out.s ?_)
            | fail)
          intro ra6 rc6 w6 own6 grow6 _
          rw [HT.out] at own6
          have L6 := Lib.hid (LA.out.appO grow6 own6)
          clear own6 grow6 LA HK
          go_wp2_with fail
          go_roundw
          case rel => exact ⟨k + 1, rc6, ra6, by omega, by go_num, rfl, L6⟩
          case measure => simp [intOf]; omega
        · obtain rfl : n = k := by omega
          have e' : (l.map (decN cm)).take n = l.map (decN cm) := by rw [← hm.out, ← List.length_map (decN cm), List.take_length]
          rw [e'] at HL
          obtain ⟨_, ⟨p0, _, _⟩, _⟩ := (HP1.out.step (lps_below HL.out HE.out)).cells
          go_wp2_with fail
          go_loopw [14, 68] (fun vw i wr => ∃ (N m wc : Nat) (wa : Option Addr), N ≤ cm ∧ i = .int .i64 N ∧ vw = .slice wa m wc ∧ Hid ((intL (waksI l N)).length = m) ∧ Hid (LpS (TB + 1) X wr (.slice ra n rc) n (l.map (decN cm)) (.slice wa m wc) m (intL (waksI l N)))) (fun _ i _ => cm - (intOf i).toNat)
          case atStart => exact ⟨0, 0, 0, none, Nat.zero_le _, rfl, rfl, Lib.hid rfl, HL⟩
          case round =>
            obtain ⟨N, m, wc, wa, hN, rfl, rfl, HMW, HLW⟩ := hrel
            by_cases hNc : N < cm
            · go_wp2_with fail
              go_loopw [14, 73] (fun vw i wr => ∃ (k m2 wc2 : Nat) (wa2 : Option Addr), k ≤ n ∧ i = .int .i64 k ∧ vw = .slice wa2 m2 wc2 ∧ Hid ((intL (waksI l N ++ wakI N 0 (l.take k))).length = m2) ∧ Hid (LpS (TB + 1) X wr (.slice ra n rc) n (l.map (decN cm)) (.slice wa2 m2 wc2) m2 (intL (waksI l N ++ wakI N 0 (l.take k))))) (fun _ i _ => n - (intOf i).toNat)
              case atStart => exact ⟨0, m, wc, wa, Nat.zero_le _, rfl, rfl, Lib.hid (by rw [List.take_zero, wakI, List.append_nil]; exact HMW.out), Lib.hid (by rw [List.take_zero, wakI, List.append_nil]; exact HLW.out)⟩
              case round =>
                obtain ⟨k, m2, wc2, wa2, hkn, rfl, rfl, HM2, HL2⟩ := hrel
                by_cases hkn2 : k < n
                · obtain ⟨f, hf⟩ : ∃ f, l[k]? = some f := ⟨l[k]'(by rw [hm.out]; exact hkn2), List.getElem?_eq_getElem _⟩
                  obtain ⟨b, off, rfl, hb, c0, c1⟩ := at_hd (HA1.out.step (lps_below HL2.out HE.out)) hf
                  have HF := Lib.hid hf
                  have hm2 : m2 ≤ 6416 := by
                    have h1 := waks_le' (l := l) (N := N) hm.out hn16 (by omega : N ≤ 400)
                    have h2 := wak_le N 0 (l.take k)
                    have h3 : (l.take k).length ≤ l.length := by rw [List.length_take]; omega
                    have h4 := HM2.out
                    rw [intL_len, List.length_append] at h4
                    have := hm.out
                    omega
                  by_cases hy : (N : Int) < f.left
                  · by_cases hx2 : f.says = 2
                    · have HM3 : Hid ((intL (waksI l N ++ wakI N 0 (l.take (k + 1)))).length = m2 + 1) := Lib.hid (by rw [waks_part hf ⟨hy, hx2⟩, List.length_append, HM2.out]; rfl)
                      have HW3 : Hid (intL (waksI l N ++ wakI N 0 (l.take (k + 1))) = intL (waksI l N ++ wakI N 0 (l.take k)) ++ [(k : Int)]) := Lib.hid (waks_part hf ⟨hy, hx2⟩)
                      obtain ⟨x, y⟩ := f
                      simp only at hy hx2 c0 c1
                      subst hx2
                      have g1 : decide ((N : Int) < y) = true := decide_eq_true hy
                      have LA := Lib.hid ((HL2.out.step (below_alloc wr (.cells #[.int .i64 2, .int .i64 y] 32))).step (below_alloc _ (.cells #[.int .i64 (k : Int)] 3)))
                      have HK := Lib.hid (Shape.At.lit (S := shI) (cap := 1) [(k : Int)] (heap_alloc_new (wr.alloc (.cells #[.int .i64 2, .int .i64 y] 32)) (.cells #[.int .i64 (k : Int)] 3)))
                      simp only [World.size_alloc] at HK
                      clear hf
                      go_wp2_with (first
                        | (at_builtin; refine wpList_append_n shI rfl _ _ 25 rfl (TB + 1) 3 i0 _ 8 Try.underlying25 hi hz0 hz1 hz2 rfl (.slice wa2 m2 wc2) m2 (intL (waksI l N ++ wakI N 0 (l.take k))) _ HM2 rfl LA.out.wk (some ⟨wr.heap.size + 1, 0, none⟩) 1 1 rfl (Lib.hid rfl) HK.out (by unfold maxLen; omega) (by omega) LA.out.s ?_)
                        | fail)
                      intro ra6 rc6 w6 own6 grow6 _
                      rw [← HW3.out] at own6
                      have L6 := Lib.hid (LA.out.appW grow6 own6)
                      clear own6 grow6 LA HK
                      go_wp2_with fail
                      go_roundw
                      case rel => exact ⟨k + 1, m2 + 1, rc6, ra6, by omega, by go_num, rfl, HM3, L6⟩
                      case measure => simp [intOf]; omega
                    · have HW3 : Hid (waksI l N ++ wakI N 0 (l.take (k + 1)) = waksI l N ++ wakI N 0 (l.take k)) := Lib.hid (waks_part_no hf (fun e => hx2 e.2))
                      obtain ⟨x, y⟩ := f
                      simp only at hy hx2 c0 c1
                      have g1 : decide ((N : Int) < y) = true := decide_eq_true hy
                      have g2 : (x == 2) = false := by simpa using hx2
                      have LA := Lib.hid (HL2.out.step (below_alloc wr (.cells #[.int .i64 x, .int .i64 y] 32)))
                      clear hf
                      go_wp2_with fail
                      go_roundw
                      case rel => exact ⟨k + 1, m2, wc2, wa2, by omega, by go_num, rfl, by rw [HW3.out]; exact HM2, by rw [HW3.out]; exact LA⟩
                      case measure => simp [intOf]; omega
                  · have HW3 : Hid (waksI l N ++ wakI N 0 (l.take (k + 1)) = waksI l N ++ wakI N 0 (l.take k)) := Lib.hid (waks_part_no hf (fun e => hy e.1))
                    obtain ⟨x, y⟩ := f
                    simp only at hy c0 c1
                    have g1 : decide ((N : Int) < y) = false := decide_eq_false hy
                    have LA := Lib.hid (HL2.out.step (below_alloc wr (.cells #[.int .i64 x, .int .i64 y] 32)))
                    clear hf
                    go_wp2_with fail
                    go_roundw
                    case rel => exact ⟨k + 1, m2, wc2, wa2, by omega, by go_num, rfl, by rw [HW3.out]; exact HM2, by rw [HW3.out]; exact LA⟩
                    case measure => simp [intOf]; omega
                · obtain rfl : n = k := by omega
                  have e2 : waksI l N ++ wakI N 0 (l.take n) = waksI l (N + 1) := by rw [← hm.out, List.take_length]; rfl
                  rw [e2] at HM2 HL2
                  go_wp2_with fail
                  go_roundw
                  case rel => exact ⟨N + 1, m2, wc2, wa2, by omega, by go_num, rfl, HM2, HL2⟩
                  case measure => simp [intOf]; omega
            · obtain rfl : N = cm := by omega
              have PX := HP1.out.step (lps_below HLW.out HE.out)
              have GX := PX.cells
              go_wp2_with fail
              go_region
              go_wp2_with fail
              refine bodyPost_ret (results_tmp2_row rfl _ _ w.heap.size 24 #[.int .i64 (N : Int), .int .i64 nb, .bool of] (0, 0) _ rfl (tal_stored PX.z) Try.underlying24 rfl size_tally) rfl ?_
              exact iplay_end hm.out HMW.out HLW.out PX.b nb of HNE.out HOE.out PX.z
end Go.Proofs.Ytdpfffifhkndlaa
