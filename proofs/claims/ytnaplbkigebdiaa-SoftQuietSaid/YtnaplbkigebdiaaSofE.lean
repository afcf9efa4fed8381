/- Package soft: the walks of start and Run. -/
import Derived.Test.YtnaplbkigebdiaaSofD
namespace Go.Proofs.Ytnaplbkigebdiaa
open Go.RowKit

theorem size_pg : (Try.prog.info? 47).map (·.size) = some 10 := by kernel_rfl
theorem pg_one (f : Nat → Bool) (a b : Option Addr) (n c m e : Nat) : (pgRow f (.slice a n c) (.slice b m e)).all (·.oneCell') = true := by simp [pgRow, Value.oneCell']
def pendK (l : List Int) (k : Nat) (s : Nat) : Bool := decide ((s : Int) ∈ l.take k)
theorem pend_zero (l : List Int) : pendK l 0 = fun _ => false := by funext s; simp [pendK]
theorem pend_all {l : List Int} {n : Nat} (h : l.length = n) : pendK l n = pendJ l := by
  funext s
  unfold pendK pendJ
  rw [← h, List.take_length]
theorem pend_next {l : List Int} {k x : Nat} (h : l[k]? = some (x : Int)) : upS (pendK l k) x true = pendK l (k + 1) := by
  funext s
  unfold upS pendK
  rw [List.take_add_one, h]
  by_cases e : s = x
  · subst e; simp
  · rw [if_neg e]
    simp only [Option.toList, List.mem_append, List.mem_singleton, decide_eq_decide]
    constructor
    · exact Or.inl
    · rintro (h | h)
      · exact h
      · omega
theorem pg_made {w w1 w2 : World} {B : Nat} {rs : List RaT} {a2 : Option Addr} {c2 m : Nat} (hm : rs.length = m) (HR : shR.At w a2 c2 rs) (hc : m ≤ c2) (hb : Below w.heap.size w w1) (hB : w.heap.size ≤ B) (hset : SetR w1 w2 B (.cells (pgRow (fun _ => false) (.slice a2 m c2) (.slice none 0 0)) 47 (0, 0))) : Pg w w2 B rs (fun _ => false) 0 [] a2 c2 none 0 :=
  ⟨hb.trans (hset.below _ hB), hB, by rw [hm]; exact hset.put, HR, by rw [hm]; exact hc, World.ownsRow_nil _ _ _ _⟩
/-- What start answers. -/
def StartOut (w : World) (rs : List RaT) (f : Nat → Bool) (e : Ending) (w' : World) : Prop :=
  ∃ la lc d, e = .returned (.agg (pgRow f (.slice la (rs.length - d) lc) (.slice none 0 0))) ∧ shR.At w la lc (rs.drop d) ∧ rs.length - d ≤ lc ∧ CutJ rs ((0 : Nat) : Int) d ∧ Below w.heap.size w w'
set_option maxHeartbeats 2000000 in
set_option maxRecDepth 100000 in
theorem start_N {a1 a2 : Option Addr} {c1 c2 n m : Nat} {pd : List Int} {rs : List RaT} (w : World) (HA : Hid (shI.At w a1 c1 pd)) (hm : Hid (pd.length = n)) (hn : n ≤ 9223372036854775807) (HR : Hid (shR.At w a2 c2 rs)) (hm2 : Hid (rs.length = m)) (hc2 : m ≤ c2) (HV : Hid (RtJ pd rs)) :
    Calls Try.prog 20 #[.slice a1 n c1, .slice a2 m c2] w (StartOut w rs (stJ pd rs).now) := by
  have hbuilt : Try.prog.built 47 [(1, .slice a2 m c2)] = some (pgRow (fun _ => false) (.slice a2 m c2) (.slice none 0 0)) := by kernel_rfl
  have HBT := Lib.hid hbuilt
  have HS : Hid ((Try.prog.info? 47).map (·.size) = some 10) := Lib.hid size_pg
  clear hbuilt
  go_enter Try.func20, Try.ntmps20
  go_wp2_with (first
    | (refine wpList_build_row rfl 47 _ rfl (pgRow (fun _ => false) (.slice a2 m c2) (.slice none 0 0)) (by simp only [List.map_toArray, List.map_cons, List.map_nil]; exact HBT.out) ?_)
    | (refine wpList_store_row rfl 47 _ _ rfl (w.heap.size + 1) (pgRow (fun _ => false) (.slice a2 m c2) (.slice none 0 0)) rfl rfl 47 _ (heap_alloc2_new w _ _) HS.out rfl (pg_one _ _ _ _ _ _ _) ?_; intro w2 hset; have P2 := Lib.hid (pg_made hm2.out HR.out hc2 (below_two w _ _) (show w.heap.size ≤ w.heap.size + 1 by omega) hset); have R2 := Lib.hid ((hset.other w.heap.size (by omega)).trans (heap_alloc2_old w _ _)); clear hset)
    | fail)
  have HZ : Hid (Pg w w2 (w.heap.size + 1) rs (pendK pd 0) 0 [] a2 c2 none 0) := Lib.hid (by rw [pend_zero]; exact P2.out)
  clear P2 HBT
  go_loopw [12] (fun i wr => ∃ k : Nat, k ≤ n ∧ i = .int .i64 k ∧ Hid (Pg w wr (w.heap.size + 1) rs (pendK pd k) 0 [] a2 c2 none 0) ∧ Hid (wr.heap[w.heap.size]? = some (.cells (pgRow (fun _ => false) (.slice none 0 0) (.slice none 0 0)) 47 (0, 0)))) (fun i _ => n - (intOf i).toNat)
  case atStart => exact ⟨0, Nat.zero_le _, rfl, HZ, R2⟩
  case round =>
    clear HZ R2
    obtain ⟨k, hk, rfl, HP, HZ⟩ := hrel
    by_cases hlt : k < n
    · obtain ⟨x, hx⟩ : ∃ x, pd[k]? = some x := ⟨pd[k]'(by rw [hm.out]; exact hlt), List.getElem?_eq_getElem _⟩
      have h7 := in7_at HV.out.1 hx
      obtain ⟨y, rfl⟩ : ∃ y : Nat, x = y := ⟨x.toNat, by omega⟩
      have hy8 : y < 8 := by omega
      have hy8i : (y : Int) < 8 := by omega
      obtain ⟨b, off, rfl, hb, e0⟩ := at_int HA.out hx
      have g0 := (HP.out.b.cell (p := ⟨b, off + k, none⟩) hb).trans e0
      have hbr : b < wr.heap.size := Nat.lt_of_lt_of_le hb HP.out.b.size
      obtain ⟨cs, _, _, fr, hB⟩ := HP.out.cells
      have c0 := cs y hy8
      have P1 : Hid (Pg w (wr.setCell ⟨w.heap.size + 1, y, none⟩ (.bool true)) (w.heap.size + 1) rs (pendK pd (k + 1)) 0 [] a2 c2 none 0) := Lib.hid (by rw [← pend_next hx]; exact HP.out.setB hy8 true)
      have Z1 := Lib.hid ((Below.heap_setCell wr ⟨w.heap.size + 1, y, none⟩ (.bool true) w.heap.size (by simp)).trans HZ.out)
      clear hx cs e0 h7
      go_wp2_with fail
      go_roundw
      case rel => exact ⟨k + 1, by omega, by go_num, P1, Z1⟩
      case measure => simp [intOf]; omega
    · obtain rfl : k = n := by omega
      have P1 : Hid (Pg w wr (w.heap.size + 1) rs (pendJ pd) 0 [] a2 c2 none 0) := Lib.hid (by rw [← pend_all hm.out]; exact HP.out)
      have HU := Lib.hid HV.out.2.2
      have HC : Hid (CutJ rs ((([] : List Nat).length : Int) - 1) 0) := Lib.hid (cut_start HV.out)
      have hRB : ¬ w.heap.size = w.heap.size + 1 := by omega
      clear HP hlt hk
      go_wp2_with (first
        | (go_at_call 29; (with_reducible refine (raise_N P1 HU HC).mono ?_); rintro e w4 ⟨rfl, la4, lc4, d4, p4, cut4, g4⟩; have P4 := Lib.hid p4; have C4 := Lib.hid cut4; have D4 := Lib.hid ((g4.block w.heap.size (heap_lt HZ.out) (fun e => hRB (Option.some.inj e))).trans HZ.out); clear p4 cut4 g4)
        | (refine wpList_load_row rfl 47 _ rfl (w.heap.size + 1) rfl 47 (pgRow (stJ pd rs).now (.slice la4 (rs.length - d4) lc4) (.slice none 0 0)) (0, 0) _ P4.out.c Try.underlying47 rfl HS.out ?_)
        | (refine wpList_store_row rfl 47 _ _ rfl w.heap.size (pgRow (stJ pd rs).now (.slice la4 (rs.length - d4) lc4) (.slice none 0 0)) rfl rfl 47 _ D4.out HS.out rfl (pg_one _ _ _ _ _ _ _) ?_; intro w5 hset; have R5 := Lib.hid hset.put; have B5 := Lib.hid (P4.out.b.trans (hset.below w.heap.size (Nat.le_refl _))); clear hset)
        | fail)
      refine bodyPost_ret (v := .agg (pgRow (stJ pd rs).now (.slice la4 (rs.length - d4) lc4) (.slice none 0 0))) ?_ rfl ⟨la4, lc4, d4, rfl, P4.out.l, P4.out.cap, C4.out, B5.out⟩
      exact results_cell_row (fn := Try.f20) rfl _ _ w.heap.size 47 _ (0, 0) _ rfl R5.out Try.underlying47 rfl HS.out
end Go.Proofs.Ytnaplbkigebdiaa
