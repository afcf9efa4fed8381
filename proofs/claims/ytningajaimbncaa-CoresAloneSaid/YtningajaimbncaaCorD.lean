/- Package cores: the walk of arrive. -/
import Derived.Test.YtningajaimbncaaCorC
import Derived.Deep.Cut
import Derived.Deep.RegionHeld3
import Derived.Deep.RegionLaw
namespace Go.Proofs.Ytningajaimbncaa
open Go.RowKit

/-- What the append in arrive's round reads. -/
structure Ba (B X : Nat) (c sl : Nat) (qv : Value) (tc tl tw : Nat) (wx : World) : Prop where
  m : wx.heap[B]? = some (.cells #[.int .i64 c, .int .i64 sl, qv] 48 (0, 0))
  t : wx.heap[X]? = some (.cells #[.int .i64 tc, .int .i64 tl, .int .i64 tw] 35 (0, 0))
section
variable {wx : World} {B X c sl tc tl tw : Nat} {qv : Value}
theorem Ba.all (h : Ba B X c sl qv tc tl tw wx) : Ba B X c sl qv tc tl tw wx ∧ wx.cell? ⟨B, 2, none⟩ = some qv ∧ (wx.cell? ⟨X, 0, none⟩ = some (.int .i64 tc) ∧ wx.cell? ⟨X, 1, none⟩ = some (.int .i64 tl) ∧ wx.cell? ⟨X, 2, none⟩ = some (.int .i64 tw)) ∧ B < wx.heap.size ∧ wx.frozen? ⟨B, 2, none⟩ = false :=
  ⟨h, (trio_at h.m).2.2, trio_at h.t, heap_lt h.m, frozen_of_row wx B 2 _ _ h.m⟩
theorem Ba.drew (h : Ba B X c sl qv tc tl tw wx) : Ba B X c sl qv tc tl tw wx.drew := ⟨h.m, h.t⟩
theorem Ba.alloc (h : Ba B X c sl qv tc tl tw wx) (o : Obj) : Ba B X c sl qv tc tl tw (wx.alloc o) := ⟨heap_step h.m (below_alloc _ _), heap_step h.t (below_alloc _ _)⟩
end
theorem map_upd {P : Nat → Nat} {k p : Nat} : ∀ {Q : List Nat}, ¬ k ∈ Q → Q.map (upd P k p) = Q.map P
  | [], _ => rfl
  | x :: r, h => by
    have e1 : ¬ x = k := fun e => h (e ▸ List.mem_cons_self)
    have e2 : upd P k p x = P x := upd_other e1
    rw [List.map_cons, List.map_cons, map_upd (fun e => h (List.mem_cons_of_mem _ e)), e2]
/-- One thread more. -/
theorem MemN.come {w0 w1 wm w5 : World} {B : Nat} {T : ThN} {P : Nat → Nat} {Q : List Nat} {left ran : Nat → Nat} {qv qv5 : Value} (h : MemN w0 w1 B T P ⟨Q, left, ran⟩ qv) {k p : Nat} (hk : ¬ k ∈ Q) (hl : left k = T.work k) (hr : ran k = 0) (hlen : Q.length + 1 ≤ 64)
    (hm : Below w1.heap.size w1 wm) (hp : w1.heap.size ≤ p) (hth : wm.heap[p]? = some (.cells #[.int .i64 (T.come k : Nat), .int .i64 (T.lev k : Nat), .int .i64 (T.work k : Nat), .int .i64 (k : Nat), .int .i64 0] 60 (0, 0)))
    (hg : wm.grownBy w5 qv.ownBlock) (ho : w5.ownsRow w0.heap.size 58 1 qv5 (Q.length + 1) (shP.flat (Q.map P ++ [p]))) :
    w5.heap[B]? = some (.cells #[.int .i64 (T.c : Nat), .int .i64 (T.sl : Nat), qv] 48 (0, 0)) ∧ MemN w0 (w5.setCell ⟨B, 2, none⟩ qv5) B T (upd P k p) ⟨Q ++ [k], left, ran⟩ qv5 ∧ KeepN w1 (w5.setCell ⟨B, 2, none⟩ qv5) := by
  have hM := h.step hm
  have hbk : ∀ (b : Nat) (cs : Array Value) (t : TypeId) (fr : Nat × Nat), wm.heap[b]? = some (.cells cs t fr) → ¬ t = 58 → w5.heap[b]? = some (.cells cs t fr) := fun b _ _ _ hb ht => (hg.block b (heap_lt hb) (fun e => own_ne hM.own hb ht b e.symm rfl)).trans hb
  have hkq : upd P k p k = p := upd_same _ _ _
  have hjq : ∀ j ∈ Q, upd P k p j = P j := fun j hj => upd_other fun e => hk (e ▸ hj)
  have hlt : ∀ j ∈ Q, P j < p := fun j hj => Nat.lt_of_lt_of_le (heap_lt (h.thr j hj).1) hp
  have G := hM.putQ (P' := upd P k p) (s' := ⟨Q ++ [k], left, ran⟩) (qv' := qv5) hg (by
      show w5.ownsRow _ _ _ _ (Q ++ [k]).length (shP.flat ((Q ++ [k]).map (upd P k p)))
      rw [List.length_append, List.map_append, map_upd hk, show [k].map (upd P k p) = [p] by simp [hkq]]
      exact ho) (fun j hj => by
      replace hj : j ∈ Q ++ [k] := hj
      show ThrB w5 T (upd P k p) left ran j ∧ _
      unfold ThrB
      rcases List.mem_append.1 hj with e | e
      · rw [hjq j e]
        exact ⟨hbk _ _ _ _ (hM.thr j e).1 (by decide), (hM.thr j e).2⟩
      · rw [List.mem_singleton] at e
        subst e
        rw [hkq, hl, hr]
        exact ⟨hbk _ _ _ _ hth (by decide), Nat.le_trans h.b.size hp⟩) (fun i hi j hj e => by
      replace hi : i ∈ Q ++ [k] := hi
      replace hj : j ∈ Q ++ [k] := hj
      rw [List.mem_append, List.mem_singleton] at hi hj
      rcases hi with hi | rfl
      · rcases hj with hj | rfl
        · rw [hjq i hi, hjq j hj] at e
          exact h.inj i hi j hj e
        · rw [hjq i hi, hkq] at e
          have := hlt i hi
          omega
      · rcases hj with hj | rfl
        · rw [hkq, hjq j hj] at e
          have := hlt j hj
          omega
        · rfl) (by show (Q ++ [k]).length ≤ 64; rw [List.length_append]; exact hlen)
  exact ⟨G.1, G.2, (keep_below hm).trans ((keep_row hM.own hg).trans (keep_set G.1 (Or.inr rfl)))⟩
set_option maxHeartbeats 2000000 in
set_option maxRecDepth 100000 in
theorem arrive_W {w0 w : World} {B : Nat} {T : ThN} {P : Nat → Nat} {s : StM} {qv : Value} {ad : Option Addr} {cap n : Nat} {l : List ThT} (t : Nat) (HM : Hid (MemN w0 w B T P s qv)) (HA : Hid (shT.At w0 ad cap l)) (hm : Hid (l.length = n)) (hn : n ≤ 64)
    (HT : Hid (∀ (k : Nat) (x : ThT), l[k]? = some x → x.c = ((T.come k : Nat) : Int) ∧ x.l = ((T.lev k : Nat) : Int) ∧ x.w = ((T.work k : Nat) : Int))) (HN : Hid (∀ k, T.come k = t → ¬ k ∈ s.q ∧ s.left k = T.work k ∧ s.ran k = 0)) (HL : Hid (s.q.length + (cameN T t n).length ≤ 64)) :
    Calls Try.prog 24 #[.pointer (some ⟨B, 0, none⟩), .slice ad n cap, .int .i64 (t : Nat)] w fun e w' => e = .returned (.tuple #[]) ∧ (∃ P' qv', MemN w0 w' B T P' ⟨s.q ++ cameN T t n, s.left, s.ran⟩ qv') ∧ KeepN w w' := by
  obtain ⟨i0, hi, hz0, hz1, hz2⟩ := info_parts' info_ptr
  go_enter Try.func24, Try.ntmps24
  go_wp2_with fail
  go_loopw [10] (fun i wr => ∃ (k : Nat) (P' : Nat → Nat) (qv' : Value), k ≤ n ∧ i = .int .i64 k ∧ Hid (MemN w0 wr B T P' ⟨s.q ++ cameN T t k, s.left, s.ran⟩ qv') ∧ Hid (KeepN w wr)) (fun i _ => n - (intOf i).toNat)
  case atStart => exact ⟨0, P, qv, Nat.zero_le _, rfl, Lib.hid (by rw [show cameN T t 0 = [] from rfl, List.append_nil]; exact HM.out), Lib.hid (KeepN.refl w)⟩
  case round =>
    obtain ⟨k, P', qv', hk, rfl, HK, KK⟩ := hrel
    by_cases hlt : k < n
    · obtain ⟨x, hx⟩ : ∃ x, l[k]? = some x := ⟨l[k]'(by rw [hm.out]; exact hlt), List.getElem?_eq_getElem _⟩
      obtain ⟨b, off, rfl, hbl, e0, e1, e2⟩ := at_th HA.out hx
      obtain ⟨f0, f1, f2⟩ := HT.out k x hx
      rw [f0] at e0
      rw [f1] at e1
      rw [f2] at e2
      have g0 := (HK.out.b.cell (p := ⟨b, off + k * 3, none⟩) hbl).trans e0
      have g1 := (HK.out.b.cell (p := ⟨b, off + k * 3 + 1, none⟩) hbl).trans e1
      have g2 := (HK.out.b.cell (p := ⟨b, off + k * 3 + 2, none⟩) hbl).trans e2
      have hbr : b < wr.heap.size := Nat.lt_of_lt_of_le hbl HK.out.b.size
      have HC := Lib.hid (came_succ T t k)
      obtain ⟨tc, htc⟩ : ∃ tc, T.come k = tc := ⟨_, rfl⟩
      obtain ⟨tl, htl⟩ : ∃ tl, T.lev k = tl := ⟨_, rfl⟩
      obtain ⟨tw, htw⟩ : ∃ tw, T.work k = tw := ⟨_, rfl⟩
      rw [htc] at g0
      rw [htl] at g1
      rw [htw] at g2
      have HTC := Lib.hid htc
      have HTL := Lib.hid htl
      have HTW := Lib.hid htw
      have HM1 := Lib.hid (HK.out.step (below_alloc wr (.cells #[.int .i64 tc, .int .i64 tl, .int .i64 tw] 35)))
      have HX1 := Lib.hid (heap_alloc_new wr (.cells #[.int .i64 tc, .int .i64 tl, .int .i64 tw] 35))
      have K1 := Lib.hid (KK.out.trans (keep_below (below_alloc wr (.cells #[.int .i64 tc, .int .i64 tl, .int .i64 tw] 35))))
      clear e0 e1 e2 f0 f1 f2 hx htc htl htw
      by_cases ht : tc = t
      · rw [ht] at g0 HTC HM1 HX1 K1
        clear ht
        go_upto_region 4 with fail
        generalize wr.alloc (.cells #[.int .i64 t, .int .i64 tl, .int .i64 tw] 35) = w1 at HM1 HX1 K1 ⊢
        generalize wr.heap.size = X at HX1 ⊢
        obtain ⟨hnq, hnl, hnr⟩ := HN.out k HTC.out
        have HNQ : Hid (¬ k ∈ s.q ++ cameN T t k) := Lib.hid (by
          rw [List.mem_append, mem_came]
          rintro (e | e)
          · exact hnq e
          · omega)
        have HNL := Lib.hid hnl
        have HNR := Lib.hid hnr
        have hql : (s.q ++ cameN T t k).length + 1 ≤ 64 := by
          have h1 := HL.out
          have h2 : (cameN T t (k + 1)).length ≤ (cameN T t n).length := came_mono T t hlt
          rw [HC.out, if_pos HTC.out, List.length_append] at h2
          rw [List.length_append]
          simp at h2
          omega
        obtain ⟨qa, qc, rfl, _⟩ := own_shape HM1.out.own
        obtain ⟨Q, hQ⟩ : ∃ Q, s.q ++ cameN T t k = Q := ⟨_, rfl⟩
        simp only [hQ] at HM1 HNQ hql ⊢
        obtain ⟨N, hN⟩ : ∃ N, Q.length = N := ⟨_, rfl⟩
        rw [hN] at hql HM1
        have HNN := Lib.hid hN
        have HQ := Lib.hid hQ
        have HQL : Hid ((Q.map P').length = N) := Lib.hid (by rw [List.length_map]; exact hN)
        have hms := HM1.out.b.size
        have S0 : Ba B X T.c T.sl (.slice qa N qc) t tl tw w1 := ⟨HM1.out.hp, HX1.out⟩
        have XB := (((below_alloc w1 (.cells #[.int .i64 t, .int .i64 tl, .int .i64 tw, .int .i64 k, .int .i64 0] 60)).alloc (by simp) (.cells #[.pointer (some ⟨w1.heap.size, 0, none⟩)] 58)).drew)
        have XO : Hid (((w1.alloc (.cells #[.int .i64 t, .int .i64 tl, .int .i64 tw, .int .i64 k, .int .i64 0] 60)).alloc (.cells #[.pointer (some ⟨w1.heap.size, 0, none⟩)] 58)).drew.ownsRow w0.heap.size 58 1 (.slice qa N qc) N (shP.flat (Q.map P'))) := Lib.hid (by have := own_step HM1.out.own XB; simp only [hN] at this; exact this)
        have XP : Hid (shP.At (((w1.alloc (.cells #[.int .i64 t, .int .i64 tl, .int .i64 tw, .int .i64 k, .int .i64 0] 60)).alloc (.cells #[.pointer (some ⟨w1.heap.size, 0, none⟩)] 58)).drew) (some ⟨w1.heap.size + 1, 0, none⟩) 1 [w1.heap.size]) := Lib.hid (Shape.At.lit (S := shP) [w1.heap.size] (by have := heap_alloc_new (w1.alloc (.cells #[.int .i64 t, .int .i64 tl, .int .i64 tw, .int .i64 k, .int .i64 0] 60)) (.cells #[.pointer (some ⟨w1.heap.size, 0, none⟩)] 58); simp only [World.size_alloc] at this; exact this))
        have XT : Hid ((((w1.alloc (.cells #[.int .i64 t, .int .i64 tl, .int .i64 tw, .int .i64 k, .int .i64 0] 60)).alloc (.cells #[.pointer (some ⟨w1.heap.size, 0, none⟩)] 58)).drew).heap[w1.heap.size]? = some (.cells #[.int .i64 (T.come k : Nat), .int .i64 (T.lev k : Nat), .int .i64 (T.work k : Nat), .int .i64 (k : Nat), .int .i64 0] 60 (0, 0))) := Lib.hid (by rw [HTC.out, HTL.out, HTW.out]; exact (heap_step (heap_alloc_new w1 (.cells #[.int .i64 t, .int .i64 tl, .int .i64 tw, .int .i64 k, .int .i64 0] 60)) (below_alloc (w1.alloc (.cells #[.int .i64 t, .int .i64 tl, .int .i64 tw, .int .i64 k, .int .i64 0] 60)) (.cells #[.pointer (some ⟨w1.heap.size, 0, none⟩)] 58)) : ((w1.alloc (.cells #[.int .i64 t, .int .i64 tl, .int .i64 tw, .int .i64 k, .int .i64 0] 60)).alloc (.cells #[.pointer (some ⟨w1.heap.size, 0, none⟩)] 58)).heap[w1.heap.size]? = _))
        have XBH := Lib.hid XB
        have SD0 := S0.drew
        have SW := (S0.alloc (.cells #[.int .i64 t, .int .i64 tl, .int .i64 tw, .int .i64 k, .int .i64 0] 60)).alloc (.cells #[.pointer (some ⟨w1.heap.size, 0, none⟩)] 58)
        have SD := Lib.hid SW.drew
        clear XB SW HK KK
        obtain ⟨_, c2, ⟨x0, x1, x2⟩, hB1, fB1⟩ := S0.all
        have hX1 := heap_lt S0.t
        clear SD0 S0
        go_region_law
          ((refine step_append_n shP rfl _ _ 46 rfl w0.heap.size 58 i0 _ 8 Try.underlying46 hi hz0 hz1 hz2 rfl (.slice qa N qc) N (Q.map P') [w1.heap.size] HQL rfl XO.out (some ⟨w1.heap.size + 1, 0, none⟩) 1 1 rfl (Lib.hid rfl) XP.out (by unfold maxLen; omega) (by omega) (by simp; omega) ?_; intro ra5 rc5 w5 own5 grow5 _; have M5 := Lib.hid (MemN.come HM1.out HNQ.out HNL.out HNR.out (by rw [HNN.out]; exact hql) XBH.out (Nat.le_refl _) XT.out grow5 (by rw [HNN.out]; exact own5)); have K5 := Lib.hid (keep_row XO.out grow5); have TT : Ba B X T.c T.sl (.slice qa N qc) t tl tw w5 := ⟨M5.out.1, K5.out.at_ _ _ _ _ SD.out.t (by decide) (by decide) (by decide)⟩; obtain ⟨_, y2, _, hB5, fB5⟩ := TT.all; clear own5 grow5 TT))
        all_goals go_wp2_with fail
        all_goals go_roundw
        all_goals first | exact ⟨k + 1, _, _, by omega, by go_num, Lib.hid (by rw [HC.out, if_pos HTC.out, ← List.append_assoc, HQ.out]; exact M5.out.2.1), Lib.hid (K1.out.trans M5.out.2.2)⟩ | (simp [intOf]; omega)
      · have htb : ((tc : Int) == (t : Int)) = false := by simp; omega
        go_wp2_with fail
        go_roundw
        case rel => exact ⟨k + 1, P', qv', by omega, by go_num, Lib.hid (by rw [HC.out, if_neg (by rw [HTC.out]; exact ht), List.append_nil]; exact HM1.out), K1⟩
        case measure => simp [intOf]; omega
    · obtain rfl : k = n := by omega
      clear hlt hk
      go_wp2_with fail
      go_end0
      exact ⟨rfl, ⟨P', qv', HK.out⟩, KK.out⟩
end Go.Proofs.Ytningajaimbncaa
