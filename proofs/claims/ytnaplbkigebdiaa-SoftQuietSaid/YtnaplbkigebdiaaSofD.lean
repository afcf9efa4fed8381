/- Package soft: the walk of playRound. -/
import Derived.Test.YtnaplbkigebdiaaSofC
namespace Go.Proofs.Ytnaplbkigebdiaa
open Go.RowKit

section
variable {w0 w wx wy : World} {B d lc ec : Nat} {rs : List RaT} {f : Nat → Bool} {ran : List Nat} {la ea : Option Addr}
theorem Pg.congr {f' : Nat → Bool} (h : Pg w0 w B rs f d ran la lc ea ec) (hf : ∀ s, s < 8 → f' s = f s) : Pg w0 w B rs f' d ran la lc ea ec :=
  ⟨h.b, h.lt, by
    have e : pgRow f' (.slice la (rs.length - d) lc) (.slice ea ran.length ec) = pgRow f (.slice la (rs.length - d) lc) (.slice ea ran.length ec) := by
      unfold pgRow
      rw [hf 0 (by decide), hf 1 (by decide), hf 2 (by decide), hf 3 (by decide), hf 4 (by decide), hf 5 (by decide), hf 6 (by decide), hf 7 (by decide)]
    rw [e]; exact h.c, h.l, h.cap, h.o⟩
theorem Pg.there (h : Pg w0 w B rs f d ran la lc ea ec) : w.there B 0 8 := fun j hj => by
  obtain ⟨h1, _, _, h2, _⟩ := h.cells
  rw [Nat.zero_add, h1 j hj]
  exact ⟨rfl, h2 j⟩
theorem Pg.clear (h : Pg w0 w B rs f d ran la lc ea ec) : Pg w0 (w.setCells B 0 (b8 (fun _ => false))) B rs (fun _ => false) d ran la lc ea ec := by
  unfold b8
  simp only [World.setCells]
  refine Pg.congr ((((((((h.setB (s := 0) (by decide) false).setB (s := 1) (by decide) false).setB (s := 2) (by decide) false).setB (s := 3) (by decide) false).setB (s := 4) (by decide) false).setB (s := 5) (by decide) false).setB (s := 6) (by decide) false).setB (s := 7) (by decide) false) ?_
  intro s hs
  rcases eight8 hs with rfl | rfl | rfl | rfl | rfl | rfl | rfl | rfl <;> rfl
/-- One number more has run. -/
theorem Pg.more {k m : Nat} {ra : Option Addr} {rc : Nat} (h : Pg w0 wx B rs f d ran la lc ea ec) (hm : ran.length = m) (hg : wx.grownBy wy (Value.slice ea m ec).ownBlock) (ho : wy.ownsRow w0.heap.size 3 1 (.slice ra (m + 1) rc) (m + 1) (shI.flat (natL ran ++ [(k : Int)]))) : Pg w0 (wy.setCell ⟨B, 9, none⟩ (.slice ra (m + 1) rc)) B rs f d (ran ++ [k]) la lc ra rc := by
  subst hm
  have hl : (ran ++ [k]).length = ran.length + 1 := by simp
  have hc : wy.heap[B]? = some (.cells (pgRow f (.slice la (rs.length - d) lc) (.slice ea ran.length ec)) 47 (0, 0)) := (hg.block B (heap_lt h.c) (fun e => h.ne B e.symm rfl)).trans h.c
  refine ⟨(h.b.grown hg h.b.size (fun j hj => (own_lt h.o hj).1)).setCell h.lt _, h.lt, ?_, h.l, h.cap, ?_⟩
  · rw [hl, ← pg_set9 f _ (.slice ea ran.length ec)]
    exact heap_setCell_same wy B 9 _ _ _ hc
  · rw [hl, natL_app]
    exact own_set ho (fun g hg => own_ne ho hc (by decide) g hg) _
end
/-- What is in memory while a round runs. -/
structure LpR (w0 w wx : World) (B D : Nat) (rs : List RaT) (st : SfT) (k d lc ec : Nat) (la ea : Option Addr) : Prop where
  p : Pg w0 wx B rs (scanJ (rJ rs) st k).next d (scanJ (rJ rs) st k).ran la lc ea ec
  c : CutJ rs ((scanJ (rJ rs) st k).ran.length) d
  due : wx.heap[D]? = some (.cells (b8 st.now).toArray 45 (0, 0))
section
variable {w0 w wx wy : World} {B D k d lc ec : Nat} {rs : List RaT} {st : SfT} {la ea : Option Addr}
theorem LpR.cell (h : LpR w0 w wx B D rs st k d lc ec la ea) {s : Nat} (hs : s < 8) : wx.cell? ⟨D, s, none⟩ = some (.bool (st.now s)) := by
  rw [cell_of_row wx D s _ _ _ h.due]
  rcases eight8 hs with rfl | rfl | rfl | rfl | rfl | rfl | rfl | rfl <;> rfl
theorem LpR.skip (h : LpR w0 w wx B D rs st k d lc ec la ea) (hk : st.now k = false) : LpR w0 w wx B D rs st (k + 1) d lc ec la ea := by
  obtain ⟨h1, h2, h3⟩ := h
  refine ⟨?_, ?_, h3⟩
  · rw [scan_no hk]; exact h1
  · rw [scan_no hk]; exact h2
end
theorem b8_one (f : Nat → Bool) : (b8 f).toArray.all (·.oneCell') = true := by simp [b8, Value.oneCell']
set_option maxHeartbeats 2000000 in
set_option maxRecDepth 100000 in
theorem playRound_N {w0 w : World} {B d lc ec : Nat} {rs : List RaT} {st : SfT} {la ea : Option Addr} (HP : Hid (Pg w0 w B rs st.now d st.ran la lc ea ec)) (HU : Hid (RaUp 0 rs)) (HC : Hid (CutJ rs (st.ran.length : Int) d)) (HN : Hid (st.next = fun _ => false)) (HL : Hid (∀ k, k ≤ 8 → (scanJ (rJ rs) st k).ran.length ≤ 408)) :
    Calls Try.prog 22 #[.pointer (some ⟨B, 0, none⟩)] w fun e w' => e = .returned (.tuple #[]) ∧ ∃ d' la' lc' ea' ec', Pg w0 w' B rs (scanJ (rJ rs) st 8).next d' (scanJ (rJ rs) st 8).ran la' lc' ea' ec' ∧ CutJ rs (scanJ (rJ rs) st 8).ran.length d' := by
  obtain ⟨i0, hi, hz0, hz1, hz2⟩ := info_parts' info_int
  have hB := HP.out.cells.2.2.2.2
  have RG := Lib.hid HP.out.range
  have HS : Hid ((Try.prog.info? 45).map (·.size) = some 8) := Lib.hid size_b8
  go_enter Try.func22, Try.ntmps22
  go_wp2_with (first
    | (refine wpList_load_mid rfl 45 _ rfl B 0 rfl (b8 st.now) _ RG.out Try.underlying45 rfl HS.out ?_)
    | (refine wpList_store_row rfl 45 _ _ rfl w.heap.size (b8 st.now).toArray rfl rfl 45 _ (heap_alloc_new w _) HS.out rfl (b8_one st.now) ?_; intro w2 hset; have P2 := Lib.hid (HP.out.step ((below_alloc w _).trans (hset.below w.heap.size (Nat.le_refl _)))); have D2 := Lib.hid hset.put; have B2 := P2.out.cells.2.2.2.2; have S2 := hset.size; clear hset)
    | (refine wpList_store_mid rfl 45 _ _ rfl B 0 (b8 (fun _ => false)).toArray rfl rfl P2.out.there HS.out (b8_one _) ?_)
    | fail)
  have hDB : ¬ w.heap.size = B := by omega
  have L0 : Hid (LpR w0 w (w2.setCells B 0 (b8 (fun _ => false))) B w.heap.size rs st 0 d lc ec la ea) := Lib.hid ⟨by show Pg w0 _ B rs st.next d st.ran la lc ea ec; rw [HN.out]; exact P2.out.clear, HC.out, by
    unfold b8
    simp only [World.setCells]
    rw [Below.heap_setCell _ _ _ _ hDB, Below.heap_setCell _ _ _ _ hDB, Below.heap_setCell _ _ _ _ hDB, Below.heap_setCell _ _ _ _ hDB, Below.heap_setCell _ _ _ _ hDB, Below.heap_setCell _ _ _ _ hDB, Below.heap_setCell _ _ _ _ hDB, Below.heap_setCell _ _ _ _ hDB]
    exact D2.out⟩
  have e0 : (b8 (fun _ => false)).toArray.toList = b8 (fun _ => false) := by simp
  generalize w2.setCells B 0 (b8 (fun _ => false)) = wz at L0 ⊢
  generalize w.heap.size = D at L0 hDB ⊢
  clear P2 D2 B2 S2 e0 RG HP HC HN hB
  go_wp2_with fail
  go_loopw [12] (fun i wr => ∃ (k d lc ec : Nat) (la ea : Option Addr), k ≤ 8 ∧ i = .int .i64 k ∧ Hid (LpR w0 w wr B D rs st k d lc ec la ea)) (fun i _ => 8 - (intOf i).toNat)
  case atStart => exact ⟨0, d, lc, ec, la, ea, by omega, rfl, L0⟩
  case round =>
    clear L0
    obtain ⟨k, d, lc, ec, la, ea, hk, rfl, HR⟩ := hrel
    by_cases hlt : k < 8
    · have hd := HR.out.cell hlt
      have hk8 : (k : Int) < 8 := by omega
      obtain ⟨_, c8, c9, fr, hB⟩ := HR.out.p.cells
      cases hnow : st.now k with
      | false =>
        rw [hnow] at hd
        have HR1 := Lib.hid (HR.out.skip hnow)
        clear hnow
        go_wp2_with fail
        go_roundw
        case rel => exact ⟨k + 1, d, lc, ec, la, ea, by omega, by go_num, HR1⟩
        case measure => simp [intOf]; omega
      | true =>
        rw [hnow] at hd
        have HNW := Lib.hid hnow
        obtain ⟨m, hm⟩ : ∃ m, (scanJ (rJ rs) st k).ran.length = m := ⟨_, rfl⟩
        have hm9 : m ≤ 408 := by rw [← hm]; exact HL.out k hk
        have HM : Hid ((natL (scanJ (rJ rs) st k).ran).length = m) := Lib.hid (by rw [natL_len, hm])
        have HM0 := Lib.hid hm
        rw [hm] at c9
        have HA := Lib.hid (HR.out.p.step (below_alloc wr (.cells #[.int .i64 (k : Int)] 3)))
        have HO := HA.out.o
        rw [hm] at HO
        have HOO := Lib.hid HO
        have HK := Lib.hid (Shape.At.lit (S := shI) (cap := 1) [(k : Int)] (heap_alloc_new wr (.cells #[.int .i64 (k : Int)] 3)))
        have hsz : w0.heap.size ≤ (wr.alloc (.cells #[.int .i64 (k : Int)] 3)).heap.size := HA.out.b.size
        clear hnow hm HO
        go_wp2_with (first
          | (at_builtin; refine wpList_append_n shI rfl _ _ 22 rfl w0.heap.size 3 i0 _ 8 Try.underlying22 hi hz0 hz1 hz2 rfl (.slice ea m ec) m (natL (scanJ (rJ rs) st k).ran) _ HM rfl HOO.out (some ⟨wr.heap.size, 0, none⟩) 1 1 rfl (Lib.hid rfl) HK.out (by unfold maxLen; omega) (by omega) hsz ?_)
          | fail)
        intro ra rc w3 own3 grow3 _
        have hB3 : w3.heap[B]? = some (.cells (pgRow (scanJ (rJ rs) st k).next (.slice la (rs.length - d) lc) (.slice ea (scanJ (rJ rs) st k).ran.length ec)) 47 (0, 0)) := (grow3.block B (heap_lt HA.out.c) (fun e => own_ne HOO.out HA.out.c (by decide) B e.symm rfl)).trans HA.out.c
        have D2 := heap_step HR.out.due (below_alloc wr (.cells #[.int .i64 (k : Int)] 3))
        have D3 : w3.heap[D]? = some (.cells (b8 st.now).toArray 45 (0, 0)) := (grow3.block D (heap_lt D2) (fun e => own_ne HOO.out D2 (by decide) D e.symm rfl)).trans D2
        have DD := Lib.hid D3
        have fr3 : ∀ i, w3.frozen? ⟨B, i, none⟩ = false := fun i => frozen_of_row w3 B i _ _ hB3
        have c93 : w3.cell? ⟨B, 9, none⟩ = some (.slice ea (scanJ (rJ rs) st k).ran.length ec) := by rw [cell_of_row w3 B 9 _ _ _ hB3]; rfl
        have hB3l := heap_lt hB3
        have PM := Lib.hid (HA.out.more (k := k) HM0.out grow3 own3)
        have CM : Hid (CutJ rs ((((scanJ (rJ rs) st k).ran ++ [k]).length : Int) - 1) d) := Lib.hid (by
          have := HR.out.c
          simp only [List.length_append, List.length_singleton]
          rw [show (((scanJ (rJ rs) st k).ran.length + 1 : Nat) : Int) - 1 = ((scanJ (rJ rs) st k).ran.length : Int) by omega]
          exact this)
        clear own3 grow3 hB3 D2 D3 HA HK HOO hsz c8 c9 fr hB hd
        go_wp2_with (first
          | (go_at_call 29; (with_reducible refine (raise_N PM HU CM).mono ?_); rintro e w4 ⟨rfl, la4, lc4, d4, p4, cut4, g4⟩; have P4 := Lib.hid p4; have C4 := Lib.hid cut4; have D4 := Lib.hid ((g4.block D (Nat.lt_of_lt_of_le (heap_lt DD.out) (by simp)) (fun e => hDB (Option.some.inj e))).trans ((Below.heap_setCell _ _ _ _ hDB).trans DD.out)); clear p4 cut4 g4)
          | fail)
        have LN : Hid (LpR w0 w w4 B D rs st (k + 1) d4 lc4 rc la4 ra) := Lib.hid (by
          have p4 := P4.out
          have c4 := C4.out
          have hl : ((scanJ (rJ rs) st k).ran ++ [k]).length = (scanJ (rJ rs) st k).ran.length + 1 := by simp
          refine ⟨?_, ?_, D4.out⟩
          · rw [scan_yes HNW.out]
            rw [hl] at p4
            exact p4
          · rw [scan_yes HNW.out]
            exact c4)
        go_roundw
        case rel => exact ⟨k + 1, d4, lc4, rc, la4, ra, by omega, by go_num, LN⟩
        case measure => simp [intOf]; omega
    · obtain rfl : k = 8 := by omega
      go_wp2_with fail
      go_end0
      exact ⟨rfl, d, la, lc, ea, ec, HR.out.p, HR.out.c⟩
end Go.Proofs.Ytnaplbkigebdiaa
