/- Spans: readings, '==', slices.Equal, Clone, SortFunc and Reverse at rows of them. -/
import Derived.Test.YteabdbgllafafaaSpLay
import Derived.Test.YteabdbgllafafaaRowK
import Derived.Test.YteabdbgllafafaaLiftQ
import Derived.Test.YteabdbgllafafaaQue
import Derived.Test.YteabdbgllafafaaNum
import Derived.Lib.SliceRun
import Derived.StillTailTactics
import Derived.BigQuiet
import Derived.Deep.QuietTactic
namespace Go.Proofs.Yteabdbgllafafaa
open Go.RowKit

def shS : Shape SpS := ⟨2, fun x => [.int .i64 x.1, .int .i64 x.2], fun _ => rfl, fun _ u hu => by simp at hu; rcases hu with rfl | rfl <;> rfl, by decide⟩
theorem info_span : (Try.prog.info? 41).map (fun i => (i.zero, i.size, i.bytes)) = some (some (.agg #[.int .i64 0, .int .i64 0]), 2, 16) := by kernel_rfl
theorem size_span : (Try.prog.info? 41).map (·.size) = some 2 := by kernel_rfl
theorem at_sp {w : World} {ad : Option Addr} {cap k : Nat} {l : List SpS} {f : SpS} (h : shS.At w ad cap l) (hk : l[k]? = some f) : ∃ b off, ad = some ⟨b, off, none⟩ ∧ b < w.heap.size ∧ w.cell? ⟨b, off + k * 2, none⟩ = some (.int .i64 f.1) ∧ w.cell? ⟨b, off + k * 2 + 1, none⟩ = some (.int .i64 f.2) := by
  have hkl := (List.getElem?_eq_some_iff.1 hk).1
  obtain ⟨b, off, e, hb, hl⟩ := h.2 (by omega)
  have h0 := shS.flat_at l k 0 f hk (by decide)
  have h1 := shS.flat_at l k 1 f hk (by decide)
  have hs : shS.size = 2 := rfl
  rw [hs] at h0 h1 hl
  refine ⟨b, off, e, hb, ?_, ?_⟩
  · rw [show off + k * 2 = off + (k * 2 + 0) from rfl, hl _ (by omega), h0]; rfl
  · rw [Nat.add_assoc, hl _ (by omega), h1]; rfl
theorem eq_span (x y : Int) (w : World) : (Op.equalIn 10000 41 (.agg #[.int .i64 x, .int .i64 y]) (.agg #[.int .i64 x, .int .i64 y])).run Try.prog w = .ok true w := by
  have e : ∀ (x : Int) (w : World), (Op.equalIn 9999 3 (.int .i64 x) (.int .i64 x)).run Try.prog w = .ok true w := fun x w => by rw [run_equalIn_int w 9998 _ _ _ x x Try.underlying3]; simp
  rw [Op.equalIn]
  simp only [Sem.run_bind, run_underlying Try.underlying41, Result.andThen_ok]
  have hs : Try.prog.stoodInHeld 41 = false := by kernel_rfl
  have p0 : ∀ w : World, (part 3 #[.int .i64 x, .int .i64 y] 0).run Try.prog w = .ok (.int .i64 x) w := fun w => by simp [part, Try.isAgg3, Sem.run_bind]
  have p1 : ∀ w : World, (part 3 #[.int .i64 x, .int .i64 y] 1).run Try.prog w = .ok (.int .i64 y) w := fun w => by simp [part, Try.isAgg3, Sem.run_bind]
  simp [hs, Sem.run_bind, p0, p1, e]
set_option maxHeartbeats 1000000 in
set_option maxRecDepth 100000 in
theorem equalS {a1 a2 : Option Addr} {c1 c2 n : Nat} {l : List SpS} (w : World) (hl : Hid (l.length = n)) (H1 : Hid (shS.At w a1 c1 l)) (H2 : Hid (shS.At w a2 c2 l)) (hn : n ≤ 9223372036854775807) :
    Calls Try.prog 20 #[.slice a1 n c1, .slice a2 n c2] w fun e w' => e = .returned (.bool true) ∧ Below w.heap.size w w' := by
  have heq : ∀ (x y : Int) (w : World), (Op.equalIn 10000 41 (.agg #[.int .i64 x, .int .i64 y]) (.agg #[.int .i64 x, .int .i64 y])).run Try.prog w = .ok true w := eq_span
  go_enter Try.func20, Try.ntmps20
  go_wp2_with fail
  go_loopw [13] (fun i wr => ∃ k : Nat, k ≤ n ∧ i = .int .i64 k ∧ ∃ q, wr = w.drewN q) (fun i _ => n - (intOf i).toNat)
  case atStart => exact ⟨0, Nat.zero_le _, rfl, 0, rfl⟩
  case round =>
    obtain ⟨k, hk, rfl, q, rfl⟩ := hrel
    by_cases hlt : k < n
    · obtain ⟨f, hf⟩ : ∃ f, l[k]? = some f := ⟨l[k]'(by rw [hl.out]; exact hlt), List.getElem?_eq_getElem _⟩
      obtain ⟨b, off, rfl, _, c0, c1⟩ := at_sp H1.out hf
      obtain ⟨b2, off2, rfl, _, e0, e1⟩ := at_sp H2.out hf
      obtain ⟨x, y⟩ := f
      simp only at c0 c1 e0 e1
      clear hf
      go_wp2_with fail
      go_quiet (fail)
      go_wp2_with fail
      go_roundw
      case rel => exact ⟨k + 1, by omega, by go_num, _, rfl⟩
      case measure => simp [intOf]; omega
    · obtain rfl : k = n := by omega
      clear hlt hk
      go_wp2_with fail
      go_ret
      exact ⟨rfl, below_drewN (Below.refl _ _) _⟩
set_option maxHeartbeats 1000000 in
set_option maxRecDepth 100000 in
theorem clone_S {ad : Option Addr} {cap n : Nat} {l : List SpS} (w : World) (HA : Hid (shS.At w ad cap l)) (HN : Hid (l.length = n)) (hn : n ≤ 8796093022207) :
    Calls Try.prog 31 #[.slice ad n cap] w fun e w' => ∃ ra rc, e = .returned (.slice ra n rc) ∧ w'.ownsRow w.heap.size 41 2 (.slice ra n rc) n (shS.flat l) ∧ Below w.heap.size w w' := by
  obtain ⟨i0, hi, hz0, hz1, hz2⟩ := info_parts' info_span
  have qn : ∀ (w : World) (a : Option Addr) (n c n' c' : Nat), (binOp .eql 36 (.slice a n c) (.slice none n' c')).run Try.prog w = .ok (.bool a.isNone) w := fun w a n c n' c' => Lib.run_eql_slice_nil w _ _ a n c n' c' Try.underlying36
  cases ad with
  | none =>
    obtain ⟨rfl, rfl⟩ := HA.out.1 rfl
    obtain rfl : n = 0 := by have := HN.out; simpa using this.symm
    clear HA
    go_enter Try.func31, Try.ntmps31
    go_wp2_with fail
    go_ret
    exact ⟨none, 0, rfl, World.ownsRow_nil _ _ _ _, Below.refl _ _⟩
  | some a =>
    have HO := Lib.hid (own_new w 41 w.heap.size (size := 2) (Nat.le_refl _))
    have HA2 := Lib.hid (HA.out.step (below_alloc w (.cells #[] 41)))
    go_enter Try.func31, Try.ntmps31
    go_wp2_with (first
      | (at_builtin; refine wpList_append_at shS rfl _ _ 36 rfl w.heap.size 41 i0 _ 16 Try.underlying36 hi hz0 hz1 hz2 rfl (.slice (some ⟨w.heap.size, 0, none⟩) 0 0) [] l rfl HO.out (some a) n cap rfl HN HA2.out ?h63 ?hby ?hba ?_)
      | fail)
    case h63 => simp; unfold maxLen; omega
    case hby => simp; omega
    case hba => simp
    intro ra rc w3 own3 grow3 _
    have B3 : Below w.heap.size w w3 := (below_alloc w _).grown grow3 (by simp) (fun k hk => by simp [Value.ownBlock] at hk; omega)
    have O3 := Lib.hid own3
    clear own3 grow3
    go_wp2_with fail
    go_ret
    exact ⟨ra, rc, by simp, O3.out, B3⟩
open Go.Shelf Go.Lib Go.Sort in
/-- Turned round. -/
theorem reverse_S {base n c : Nat} {ad : Option Addr} {l : List SpS} (w : World) (HO : Hid (w.ownsRow base 41 2 (.slice ad n c) n (shS.flat l))) (hl : Hid (l.length = n)) :
    Calls Try.prog 32 #[.slice ad n c] w fun e w' => e = .returned (.tuple #[]) ∧ w'.ownsRow base 41 2 (.slice ad n c) n (shS.flat l.reverse) ∧ w.grownBy w' (Value.slice ad n c).ownBlock := by
  have e := hl.out
  subst e
  by_cases h0 : l.length = 0
  · have hl0 : l = [] := List.eq_nil_of_length_eq_zero h0
    have ho := HO.out
    subst hl0
    refine (AnyQ.slices_Reverse_empty laidSpRev ad c w).mono ?_
    rintro e w' ⟨rfl, rfl⟩
    exact ⟨rfl, ho, ⟨rfl, rfl, rfl, Nat.le_refl _, fun _ _ _ => rfl⟩⟩
  · rcases HO.out.2 with ⟨_, h3⟩ | ⟨g, cap, cur, hv, hbase, hgb, r1, r2, r3, r4⟩
    · exact absurd h3 h0
    · simp only [Value.slice.injEq, true_and] at hv
      obtain ⟨rfl, rfl⟩ := hv
      have hH := holdsK_of shS hgb r4
      have hsz : l.toArray.size ≤ 9223372036854775807 := by
        have : l.toArray.size = l.length := by simp
        unfold maxLen at r2
        omega
      have hcon := AnyQ.slices_Reverse laidSpRev 2 Try.isAgg41 Try.sizeOf41 shS.enc shS.len shS.one g 0 c l.toArray w hH hsz
      have e1 : l.toArray.size = l.length := by simp
      rw [e1] at hcon
      refine hcon.mono ?_
      rintro e w' ⟨rfl, nn, rfl⟩
      have e2 : l.toArray.reverse = l.reverse.toArray := by simp
      rw [e2]
      have o := ownsRow_putK (n := nn) (os := #[]) shS (m := l.reverse) (N := l.length) (by simp) hbase hgb r1 r2 r3
      have g2 := grownBy_putK (w := w) (g := g) (n := nn) (os := #[]) shS l.reverse.toArray
      rw [grow_empty] at o g2
      exact ⟨rfl, o, g2⟩
/-- Spans that are right. -/
abbrev OkSp := {s : SpS // okS s}
instance : Inhabited OkSp := ⟨⟨(0, 1), by decide⟩⟩
def shO : Shape OkSp := ⟨2, fun x => [.int .i64 x.1.1, .int .i64 x.1.2], fun _ => rfl, fun _ u hu => by simp at hu; rcases hu with rfl | rfl <;> rfl, by decide⟩
theorem flat_ok : ∀ L : List OkSp, shO.flat L = shS.flat (L.map Subtype.val)
  | [] => rfl
  | a :: r => by
    show shO.enc a ++ shO.flat r = shS.enc a.1 ++ shS.flat (r.map Subtype.val)
    rw [flat_ok r]
    rfl
theorem ok_list : ∀ {l : List SpS}, (∀ s ∈ l, okS s) → ∃ L : List OkSp, L.map Subtype.val = l
  | [], _ => ⟨[], rfl⟩
  | a :: r, h => by
    obtain ⟨L, hL⟩ := ok_list (l := r) fun s hs => h s (List.mem_cons_of_mem _ hs)
    exact ⟨⟨a, h a List.mem_cons_self⟩ :: L, by rw [List.map_cons, hL]⟩
open Go.Shelf Go.Lib Go.Sort in
/-- Sorted by where they begin, whichever comparison says so. -/
theorem sort_S {base n c : Nat} {ad : Option Addr} {l : List SpS} (f : Nat) (cf : OkSp → OkSp → Int) (hcf : ∀ x y, ltOf cf x y = decide (x.1.1 < y.1.1)) (ef : ∀ args w, (callFunc f args).run Try.prog w = .ok (.enter f args) w) (hcmp : ∀ blk off size (w : World), CmpLays Try.prog f #[] shO.enc 2 cf blk off size w)
    (w : World) (HO : Hid (w.ownsRow base 41 2 (.slice ad n c) n (shS.flat l))) (hl : Hid (l.length = n)) (hok : Hid (∀ s ∈ l, okS s)) (hn : n < 4611686018427387904) :
    Calls Try.prog 40 #[.slice ad n c, .func (.func f) #[] #[]] w fun e w' => e = .returned (.tuple #[]) ∧ ∃ m, l.Perm m ∧ (m.Pairwise fun a b => a.1 ≤ b.1) ∧ w'.ownsRow base 41 2 (.slice ad n c) n (shS.flat m) ∧ w.grownBy w' (Value.slice ad n c).ownBlock := by
  have e := hl.out
  subst e
  by_cases h0 : l.length = 0
  · have hl0 : l = [] := List.eq_nil_of_length_eq_zero h0
    have ho := HO.out
    subst hl0
    refine (AnyF.slices_SortFunc_none laidSpSort ad c (.func (.func f) #[] #[]) w).mono ?_
    rintro e w' ⟨rfl, rfl⟩
    exact ⟨rfl, [], List.Perm.refl _, List.Pairwise.nil, ho, ⟨rfl, rfl, rfl, Nat.le_refl _, fun _ _ _ => rfl⟩⟩
  · rcases HO.out.2 with ⟨_, h3⟩ | ⟨g, cap, cur, hv, hbase, hgb, r1, r2, r3, r4⟩
    · exact absurd h3 h0
    · simp only [Value.slice.injEq, true_and] at hv
      obtain ⟨rfl, rfl⟩ := hv
      obtain ⟨L, hL⟩ := ok_list hok.out
      have hLl : L.length = l.length := by rw [← hL, List.length_map]
      have r4' : cur.toList.take (L.length * shO.size) = shO.flat L := by rw [flat_ok, hL, hLl]; exact r4
      have hH := holdsK_of shO hgb r4'
      have e1 : L.toArray.size = l.length := by rw [← hLl]; simp
      have hO : SWO (ltOf cf) := {
        irrefl := fun x => by rw [hcf]; simp
        trans := fun x y z h1 h2 => by rw [hcf] at *; simp at *; omega
        ntrans := fun x y z h1 h2 => by rw [hcf] at *; simp at *; omega }
      have hcon := AnyQ.slices_SortFunc laidSpSort 2 Try.isAgg41 Try.sizeOf41 shO.enc shO.len shO.one cf hO f #[] g 0 c L.toArray w ef (hcmp g 0 _ w) hH (heap_lt hgb) (by rw [e1]; exact hn)
      rw [e1] at hcon
      refine hcon.mono ?_
      rintro e w' ⟨rfl, d', nn, os, hp, hs, rfl⟩
      have hd : d'.size = l.length := hp.1.trans e1
      have hperm : d'.toList.Perm L := by
        have h := hp.2.2
        rw [← hd, Array.extract_size] at h
        rw [hd, ← e1, Array.extract_size] at h
        simpa using h
      have hm : (d'.toList.map Subtype.val).length = l.length := by rw [List.length_map, Array.length_toList, hd]
      have o := ownsRow_putK (n := nn) (os := os) shO (m := d'.toList) (N := l.length) (by rw [Array.length_toList, hd]) hbase hgb r1 r2 r3
      rw [Array.toArray_toList, flat_ok] at o
      refine ⟨rfl, d'.toList.map Subtype.val, ?_, ?_, o, grownBy_putK shO d'⟩
      · rw [← hL]
        exact (hperm.map Subtype.val).symm
      · rw [List.pairwise_map, List.pairwise_iff_getElem]
        intro i j hi hj hij
        rw [Array.length_toList] at hi hj
        have h := hs i j (Nat.zero_le _) hij (by rw [← hd]; exact hj)
        rw [hcf, getElem!_pos d' i hi, getElem!_pos d' j hj] at h
        have h' : ¬ (d'[j]).1.1 < (d'[i]).1.1 := of_decide_eq_false h
        simp only [Array.getElem_toList]
        omega
end Go.Proofs.Yteabdbgllafafaa
