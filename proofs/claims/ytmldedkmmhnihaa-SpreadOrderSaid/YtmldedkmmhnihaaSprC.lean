/- The walk of spread.smallestMost's closure: it looks through all plans but some. -/
import Derived.Test.YtmldedkmmhnihaaSprA
import Derived.Test.YtmldedkmmhnihaaSprB
import Derived.StillTailTactics
import Derived.Deep.QuietTactic
import Derived.BigQuiet
import Derived.BigRegion
import Derived.RegionTactic
import Derived.Deep.RegionWith
import Derived.Deep.CutRange
import Derived.Lib.SliceRun
import Derived.IntWalk
import Derived.Outline
namespace Go.Proofs.Ytmldedkmmhnihaa
open Go.RowKit

/-- Where smallestMost's variables lie: the pieces' slice, the loads, their variable, the best, the closure. -/
structure Pl where
  w : Nat
  r : Nat
  l : Nat
  b : Nat
  p : Nat
/-- smallestMost's memory. -/
def BS (W0 : World) (p : Pl) (ad : Option Addr) (cap n m best : Nat) (L : Nat → Nat) (w : World) : Prop :=
  Below W0.heap.size W0 w ∧ (W0.heap.size ≤ p.w ∧ p.w < p.r ∧ p.r < p.l ∧ p.l < p.b ∧ p.b < p.p) ∧
  (w.heap[p.w]? = some (.cells #[.slice ad n cap] 47 (0, 0)) ∧ w.heap[p.l]? = some (.cells #[.slice (some ⟨p.r, 0, none⟩) m m] 47 (0, 0)) ∧ w.heap[p.b]? = some (.cells #[.int .i64 (best : Int)] 3 (0, 0)) ∧
    w.heap[p.p]? = some (.cells #[.func (.func 50) #[] #[.pointer (some ⟨p.w, 0, none⟩), .pointer (some ⟨p.b, 0, none⟩), .pointer (some ⟨p.l, 0, none⟩), .pointer (some ⟨p.p, 0, none⟩)]] 78 (0, 0))) ∧
  RowI w p.r m L
section
variable {W0 w w' : World} {p : Pl} {ad : Option Addr} {cap n m best : Nat} {L : Nat → Nat}
theorem BS.lt (s : BS W0 p ad cap n m best L w) : p.p < w.heap.size := (Array.getElem?_eq_some_iff.1 s.2.2.1.2.2.2).1
theorem BS.step (s : BS W0 p ad cap n m best L w) (hb : Below w.heap.size w w') : BS W0 p ad cap n m best L w' := by
  have hl := s.lt
  obtain ⟨h1, h2, ⟨h3, h4, h5, h6⟩, h7⟩ := s
  exact ⟨h1.trans (hb.mono h1.size), h2, ⟨by rw [hb.block _ (by omega)]; exact h3, by rw [hb.block _ (by omega)]; exact h4, by rw [hb.block _ (by omega)]; exact h5, by rw [hb.block _ (by omega)]; exact h6⟩, h7.step hb⟩
theorem BS.drewN (s : BS W0 p ad cap n m best L w) (q : Nat) : BS W0 p ad cap n m best L (w.drewN q) := ⟨below_drewN s.1 q, s.2⟩
theorem BS.drew (s : BS W0 p ad cap n m best L w) : BS W0 p ad cap n m best L w.drew := ⟨s.1.drew, s.2⟩
theorem BS.putL (s : BS W0 p ad cap n m best L w) {c : Nat} (hc : c < m) (v : Nat) : BS W0 p ad cap n m best (upd L c v) (w.setCell ⟨p.r, c, none⟩ (.int .i64 (v : Int))) := by
  obtain ⟨h1, h2, ⟨h3, h4, h5, h6⟩, h7⟩ := s
  have ho : ∀ k, ¬ k = p.r → (w.setCell ⟨p.r, c, none⟩ (.int .i64 (v : Int))).heap[k]? = w.heap[k]? := fun k hk => heap_setCell_other _ _ _ _ (show k ≠ (⟨p.r, c, none⟩ : Addr).block from hk)
  exact ⟨h1.setCell (p := ⟨p.r, c, none⟩) (by show W0.heap.size ≤ p.r; omega) _, h2, ⟨by rw [ho _ (by omega)]; exact h3, by rw [ho _ (by omega)]; exact h4, by rw [ho _ (by omega)]; exact h5, by rw [ho _ (by omega)]; exact h6⟩, h7.put hc v⟩
theorem BS.putB (s : BS W0 p ad cap n m best L w) (v : Nat) : BS W0 p ad cap n m v L (w.setCell ⟨p.b, 0, none⟩ (.int .i64 (v : Int))) := by
  obtain ⟨h1, h2, ⟨h3, h4, h5, h6⟩, h7⟩ := s
  have ho : ∀ k, ¬ k = p.b → (w.setCell ⟨p.b, 0, none⟩ (.int .i64 (v : Int))).heap[k]? = w.heap[k]? := fun k hk => heap_setCell_other _ _ _ _ (show k ≠ (⟨p.b, 0, none⟩ : Addr).block from hk)
  exact ⟨h1.setCell (p := ⟨p.b, 0, none⟩) (by show W0.heap.size ≤ p.b; omega) _, h2, ⟨by rw [ho _ (by omega)]; exact h3, by rw [ho _ (by omega)]; exact h4, heap_setCell_same w p.b 0 _ _ _ h5, by rw [ho _ (by omega)]; exact h6⟩, h7.same (ho _ (by omega))⟩
theorem BS.congr (s : BS W0 p ad cap n m best L w) {K : Nat → Nat} (h : ∀ c, c < m → K c = L c) : BS W0 p ad cap n m best K w := ⟨s.1, s.2.1, s.2.2.1, s.2.2.2.congr h⟩
theorem BS.cells (s : BS W0 p ad cap n m best L w) : w.cell? ⟨p.w, 0, none⟩ = some (.slice ad n cap) ∧ w.cell? ⟨p.l, 0, none⟩ = some (.slice (some ⟨p.r, 0, none⟩) m m) ∧ w.cell? ⟨p.b, 0, none⟩ = some (.int .i64 (best : Int)) ∧ w.frozen? ⟨p.b, 0, none⟩ = false ∧
    w.cell? ⟨p.p, 0, none⟩ = some (.func (.func 50) #[] #[.pointer (some ⟨p.w, 0, none⟩), .pointer (some ⟨p.b, 0, none⟩), .pointer (some ⟨p.l, 0, none⟩), .pointer (some ⟨p.p, 0, none⟩)]) := by
  obtain ⟨h1, h2, ⟨h3, h4, h5, h6⟩, h7⟩ := s
  exact ⟨by rw [cell_of_row w _ 0 _ _ _ h3]; rfl, by rw [cell_of_row w _ 0 _ _ _ h4]; rfl, by rw [cell_of_row w _ 0 _ _ _ h5]; rfl, frozen_of_row w _ 0 _ _ h5, by rw [cell_of_row w _ 0 _ _ _ h6]; rfl⟩
end
/-- What the closure leaves. -/
def PlaceOut (W0 : World) (p : Pl) (ad : Option Addr) (cap n m : Nat) (ws : Nat → Nat) (best r : Nat) (L : Nat → Nat) (e : Ending) (w' : World) : Prop :=
  e = .returned (.tuple #[]) ∧ ∃ b', BestIs ws m n r L best b' ∧ BS W0 p ad cap n m b' L w'
set_option maxHeartbeats 1000000 in
set_option maxRecDepth 100000 in
theorem place_leaf {W0 : World} {p : Pl} {ad : Option Addr} {cap n m : Nat} {ws : Nat → Nat} (hm : 0 < m) (hm8 : m ≤ 9) (best : Nat) (L : Nat → Nat) (w : World) (HS : Hid (BS W0 p ad cap n m best L w)) :
    Calls Try.prog 50 #[.int .i64 (n : Int), .pointer (some ⟨p.w, 0, none⟩), .pointer (some ⟨p.b, 0, none⟩), .pointer (some ⟨p.l, 0, none⟩), .pointer (some ⟨p.p, 0, none⟩)] w (PlaceOut W0 p ad cap n m ws best 0 L) := by
  obtain ⟨k1, k2, k3, k4, k5⟩ := HS.out.cells
  have HC : Hid (∀ i, i < m → w.drew.cell? ⟨p.r, 0 + i, none⟩ = some (.int .i64 (L i : Int))) := Lib.hid fun i hi => by rw [Nat.zero_add]; exact HS.out.drew.2.2.2.cell hi
  go_enter Try.func50, Try.ntmps50
  go_wp2_with fail
  go_region_with (first
    | (go_at_call 46; (with_reducible refine (max_R _ HC hm (by omega) _ (Lib.hid rfl)).mono ?_); rintro e w1 ⟨rfl, rfl⟩)
    | fail)
  all_goals go_wp2_with fail
  all_goals
    go_end0
    refine ⟨rfl, _, best_leaf L best, ?_⟩
    first
      | (rw [show min best (maxF L m) = maxF L m by omega]; exact (HS.out.putB _).drew)
      | (rw [show min best (maxF L m) = best by omega]; exact (HS.out.putB _).drew)
theorem has_cast (L : Nat → Nat) (x c : Nat) : (hasF (fun i => (L i : Int)) (x : Int) c = true) ↔ ∃ i, i < c ∧ L i = x := by
  rw [hasF_iff]
  constructor
  · rintro ⟨i, hi, e⟩; exact ⟨i, hi, Int.ofNat_inj.1 e⟩
  · rintro ⟨i, hi, e⟩; exact ⟨i, hi, by rw [e]⟩
theorem upd_back {L : Nat → Nat} {c x y : Nat} (h : L c = x) (d : Nat) : upd (upd L c y) c x d = L d := by
  by_cases e : d = c
  · rw [e, upd_same, h]
  · rw [upd_other e, upd_other e]
theorem upd_bound {L : Nat → Nat} {m r c x y wk : Nat} (h : ∀ c, c < m → L c + (r + 1) * 1073741824 ≤ 9663676416) (hc : c < m) (hx : L c = x) (hw : wk ≤ 1073741824) (hy : x + wk = y) : ∀ d, d < m → upd L c y d + r * 1073741824 ≤ 9663676416 := fun d hd => by
  have h1 := h d hd
  have h2 := h c hc
  rw [Nat.succ_mul] at h1 h2
  generalize r * 1073741824 = z at h1 h2 ⊢
  by_cases e : d = c
  · rw [e, upd_same, ← hy, ← hx]
    have : L c + wk + z = L c + z + wk := by rw [Nat.add_right_comm]
    exact Nat.le_trans (Nat.le_trans (Nat.le_of_eq this) (Nat.add_le_add_left hw _)) (by rw [Nat.add_assoc]; exact h2)
  · rw [upd_other e]
    exact Nat.le_trans (Nat.le_trans (Nat.le_add_right _ _) (by rw [Nat.add_assoc]; exact Nat.le_refl _)) h1
set_option maxHeartbeats 4000000 in
set_option maxRecDepth 100000 in
theorem place_R {W0 : World} {p : Pl} {ad : Option Addr} {cap n m : Nat} {ws : Nat → Nat} (hm : 0 < m) (hm8 : m ≤ 9) (hn : n ≤ 9) (HW : Hid (IntAt W0 ad cap n (fun i => (ws i : Int)))) (hw : Hid (∀ i, i < n → ws i ≤ 1073741824)) :
    ∀ (r k : Nat) (K : Int) (best : Nat) (L : Nat → Nat) (w : World), K = (k : Int) → k + r = n → best ≤ 9223372036854775807 → Hid (BS W0 p ad cap n m best L w) → Hid (∀ c, c < m → L c + r * 1073741824 ≤ 9663676416) →
    Calls Try.prog 50 #[.int .i64 K, .pointer (some ⟨p.w, 0, none⟩), .pointer (some ⟨p.b, 0, none⟩), .pointer (some ⟨p.l, 0, none⟩), .pointer (some ⟨p.p, 0, none⟩)] w (PlaceOut W0 p ad cap n m ws best r L) := by
  intro r
  induction r with
  | zero =>
    intro k K best L w hK hk hb HS _
    subst hK
    obtain rfl : k = n := by omega
    exact place_leaf hm hm8 best L w HS
  | succ r ih =>
    intro k K best L w hK hk hb HS HL
    subst hK
    obtain ⟨k1, k2, k3, k4, k5⟩ := HS.out.cells
    have hkn : k < n := by omega
    have hnk : n - (r + 1) = k := by omega
    have HNK := Lib.hid hnk
    obtain ⟨qb, qo, rfl, hqb, hcw⟩ := HW.out.2 (by omega)
    have ck := hcw k hkn
    have hwk := hw.out k hkn
    obtain ⟨wk, hwk2⟩ : ∃ wk, ws k = wk := ⟨_, rfl⟩
    simp only [hwk2] at ck
    rw [hwk2] at hwk
    have HWK := Lib.hid hwk2
    have ord := HS.out.2.1
    have hq : qb < p.w := by omega
    have HIH := Lib.hid ih
    clear hnk hwk2 hcw ih
    have hkn2 : ¬ (k : Int) = (n : Int) := by omega
    have hkn3 : decide (k = n) = false := decide_eq_false (by omega)
    have hkn4 : ((k : Int) == (n : Int)) = false := beq_eq_false_iff_ne.2 hkn2
    go_enter Try.func50, Try.ntmps50
    go_wp2_with fail
    go_loopw [18] (fun i wr => ∃ (c b' : Nat), c ≤ m ∧ i = .int .i64 c ∧ PartB ws m n r L best c b' ∧ BS W0 p (some ⟨qb, qo, none⟩) cap n m b' L wr) (fun i _ => m - (intOf i).toNat)
    case atStart => exact ⟨0, best, Nat.zero_le _, rfl, part_zero r L best, HS.out⟩
    case round =>
      clear k1 k2 k3 k4 k5
      obtain ⟨c, b', hc, rfl, hp, hs⟩ := hrel
      have HP := Lib.hid hp
      have HB := Lib.hid hs
      have hb' : b' ≤ 9223372036854775807 := Nat.le_trans hp.1 hb
      obtain ⟨j1, j2, j3, j4, j5⟩ := hs.cells
      have jw := (hs.1.cell (p := ⟨qb, qo + k, none⟩) hqb).trans ck
      by_cases hcm : c < m
      · have jc := hs.2.2.2.cell hcm
        have jf := hs.2.2.2.frozen c
        have hLc := HL.out c hcm
        obtain ⟨x, hx⟩ : ∃ x, L c = x := ⟨_, rfl⟩
        rw [hx] at jc hLc
        have HX := Lib.hid hx
        have HA : Hid (∀ q, IntAt (wr.drewN q) (some ⟨p.r, 0, none⟩) m c (fun i => (L i : Int))) := by
          refine Lib.hid fun q => ?_
          have h := (hs.drewN q).2.2.2.at m
          exact ⟨(fun q => by cases q), fun h0 => by
            obtain ⟨b2, o2, e, hlt, hcc⟩ := h.2 (by omega)
            exact ⟨b2, o2, e, hlt, fun i hi => hcc i (by omega)⟩⟩
        have hr0 : 0 ≤ r * 1073741824 := Nat.zero_le _
        clear hp hs hx
        obtain ⟨al, hal⟩ : ∃ al, hasF (fun i => (L i : Int)) (x : Int) c = al := ⟨_, rfl⟩
        have HAL := Lib.hid hal
        clear hal
        go_upto_region 5 with (fail)
        go_quiet ((go_at_call 51; exact Calls.quiet_of_same ((contains_R (x : Int) _ (Lib.hid (HA.out _)) (by omega) al HAL).mono (fun _ _ h => ⟨h.1, h.2.symm⟩))))
        cases al with
        | true =>
          obtain ⟨d, hd, he⟩ := (has_cast L x c).1 HAL.out
          have HPN := Lib.hid (part_alike HP.out hcm hd (he.trans HX.out.symm))
          clear hd he
          go_wp2_with fail
          go_quiet (fail)
          go_wp2_with fail
          go_roundw
          case rel => exact ⟨c + 1, b', by omega, by go_num, HPN.out, HB.out.drewN _⟩
          case measure => simp [intOf]; omega
        | false =>
          obtain ⟨y, hy⟩ : ∃ y, x + wk = y := ⟨_, rfl⟩
          have hyI : (x : Int) + (wk : Int) = (y : Int) := by omega
          have hyb : y ≤ 9663676416 := by omega
          by_cases hbd : b' ≤ y
          · have HPN := Lib.hid (part_bound HP.out hcm (by rw [HNK.out, HX.out, HWK.out, hy]; exact hbd))
            have t1 : decide ((b' : Int) ≤ (y : Int)) = true := decide_eq_true (by omega)
            have hsum : IntKind.i64.wrap ((x : Int) + (wk : Int)) = (y : Int) := by rw [IntWalk.i64_in _ (by omega), hyI]
            clear hy hyI
            go_wp2_with fail
            go_quiet (fail)
            clear hsum
            go_wp2_with fail
            go_roundw
            case rel => exact ⟨c + 1, b', by omega, by go_num, HPN.out, HB.out.drewN _⟩
            case measure => simp [intOf]; omega
          · have t1 : decide ((b' : Int) ≤ (y : Int)) = false := decide_eq_false (by omega)
            have HY := Lib.hid hy
            have hxy : x ≤ 9663676416 := by omega
            have hback : (y : Int) - (wk : Int) = (x : Int) := by omega
            have HBK := Lib.hid hback
            have HL2 := Lib.hid (upd_bound HL.out hcm HX.out hwk hy)
            have hsum : IntKind.i64.wrap ((x : Int) + (wk : Int)) = (y : Int) := by rw [IntWalk.i64_in _ (by omega), hyI]
            clear hy hyI hback
            obtain ⟨n1, rfl⟩ : ∃ n1, n1 = nq := ⟨_, rfl⟩
            go_wp2_with fail
            go_quiet (fail)
            go_wp2_with fail
            have S := (HB.out.drewN n1).drewN nq
            have SW := (S.1.cell (p := ⟨qb, qo + k, none⟩) hqb).trans ck
            generalize (wr.drewN n1).drewN nq = w1 at S SW ⊢
            clear j1 j2 j3 j4 j5 jw jc jf
            have S1 := Lib.hid S
            obtain ⟨j1, j2, j3, j4, j5⟩ := S.cells
            have jc := S.2.2.2.cell hcm
            have jf := S.2.2.2.frozen c
            rw [HX.out] at jc
            clear S
            go_still_tail 10, (by kernel_rfl)
            change wpList _ _ _ _ _ w1.drew
            have S2 := Lib.hid ((S1.out.putL hcm y).drew)
            clear hsum
            have hK1 : (k : Int) + 1 = ((k + 1 : Nat) : Int) := by omega
            have hK2 : k + 1 + r = n := by omega
            have HK1 := Lib.hid hK1
            have HK2 := Lib.hid hK2
            clear hK1 hK2
            go_wp2_with fail
            go_at_call 50
            (with_reducible refine (HIH.out (k + 1) ((k : Int) + 1) b' (upd L c y) _ HK1.out HK2.out hb' S2 HL2).mono ?_)
            rintro e w3 ⟨rfl, b2, hb2, hs3⟩
            have HPN := Lib.hid (part_deep HP.out hcm (show BestIs ws m n r (upd L c (L c + ws (n - (r + 1)))) b' b2 by rw [HNK.out, HX.out, HWK.out, HY.out]; exact hb2))
            have S3 := Lib.hid hs3
            clear S1 S2 SW j1 j2 j3 j4 j5 jc jf
            have SW := (hs3.1.cell (p := ⟨qb, qo + k, none⟩) hqb).trans ck
            obtain ⟨j1, j2, j3, j4, j5⟩ := hs3.cells
            have jc := hs3.2.2.2.cell hcm
            have jf := hs3.2.2.2.frozen c
            rw [upd_same] at jc
            clear hb2 hs3
            go_wp2_with fail
            go_still_tail 10, (by kernel_rfl)
            change wpList _ _ _ _ _ w3.drew
            go_wp2_with fail
            have S4 := Lib.hid ((S3.out.putL hcm x).congr (K := L) (fun d _ => (upd_back HX.out d).symm))
            go_roundw
            case rel => exact ⟨c + 1, b2, by omega, by go_num, HPN.out, by rw [HBK.out]; exact S4.out.drew⟩
            case measure => simp [intOf]; omega
      · obtain rfl : c = m := by omega
        have HPN := Lib.hid (part_all HP.out)
        clear hc hp hs
        go_wp2_with fail
        go_end0
        exact ⟨rfl, _, HPN.out, HB.out⟩
end Go.Proofs.Ytmldedkmmhnihaa
