/- Package runq: the walk of remaining. -/
import Derived.Test.YtgnpodeneknpdaaRqH
namespace Go.Proofs.Ytgnpodeneknpdaa
open Go.RowKit Go.Shelf Go.Maps

attribute [local go_sem] Oper.semAt_some

section
variable {P : Program}
/-- 'append' at a step of a region that draws its order, within a fence. -/
theorem opIn_append {α : Type} {F : Fence} {nn : Nat} (S : Shape α) {w : World} {ops : Array Oper} {o : Oper} {a : Act} {K : Act → World → Prop} {Q : Exit → Act → World → Prop} {E : Prop} (hgd : o.guard = none) (s x : Operand) (t : TypeId)
    (ho : o.op = .call { callee := .builtin .append, args := #[s, x], argTypes := #[t, t] })
    (base : Nat) (e : TypeId) (i : TypeInfo) (z : Value) (bytes : Nat) (ht : P.underlying t = some (.slice e)) (hi : P.info? e = some i) (hz : i.zero = some z)
    (hsize : i.size = S.size) (hby : i.bytes = bytes) (hzs : z.cells.size = S.size) (v : Value) (n : Nat) (xs ys : List α) (hn : Hid (xs.length = n)) (hs : a.eval s = v) (hown : w.ownsRow base e S.size v n (S.flat xs)) (sa : Option Addr) (m c : Nat) (hx : a.eval x = .slice sa m c) (hm : Hid (ys.length = m)) (hy : S.At w sa c ys)
    (h63 : n + m ≤ maxLen) (hbytes : (n + m) * bytes ≤ 140737488355328) (hbase : base ≤ w.heap.size)
    (h : ∀ ra rc w', w'.ownsRow base e S.size (.slice ra (n + m) rc) (n + m) (S.flat (xs ++ ys)) → w.grownBy w' v.ownBlock → K (a.put o.dst (.slice ra (n + m) rc)) w') :
    if Region.wanted o (yielded ops a.tmps) = true then Oper.wpIn F nn P o a w K Q else E := by
  have hw : Region.wanted o (yielded ops a.tmps) = true := by simp [Region.wanted, hgd]
  rw [if_pos hw]
  have e1 := hn.out
  have e2 := hm.out
  subst e1 e2
  obtain ⟨ra, rc, w', hr, h2, h3, _⟩ := run_append_at (P := P) S base t o.type _ i z bytes ht hi hz hsize hby hzs v xs ys hown sa c hy h63 hbytes hbase
  unfold Oper.wpIn
  refine ⟨?_, ?_⟩
  · simp [Oper.about, ho, resolve, Target.leads, Sem.run_pure]
  · rw [Oper.semAt_eq _ _ _ (by rw [ho]; intro c hc; cases hc)]
    simp only [execOp, ho, resolve, invoke, builtin, Sem.run_bind, Sem.run_pure, Result.andThen_ok, List.map_toArray, List.map_cons, List.map_nil, hs, hx, hr]
    exact h ra rc w' h2 h3
end
set_option maxHeartbeats 1000000 in
set_option maxRecDepth 100000 in
theorem backward_in (F : Fence) (n : Nat) (hFa : ∀ f, F.fn f) (hro : F.round = none) (a : Option Addr) (k c : Nat) (w : World) :
    CallsIn F n Try.prog 44 #[.slice a k c] w fun e w' => e = .returned (.func (.func 51) #[] #[.pointer (some ⟨w.heap.size, 0, none⟩)]) ∧ w' = w.alloc (.cells #[.slice a k c] 80) := by
  refine callsIn_of_wp Try.func44 rfl (hFa _) ?_ hro
  simp only [Try.ntmps44, List.size_toArray, List.length_cons, List.length_nil, Nat.reduceAdd, Nat.reduceSub, Array.replicate_succ, Array.replicate_zero, List.push_toArray, List.append_toArray, List.nil_append, List.cons_append]
  gi_wp2
  go_ret
  exact ⟨rfl, rfl⟩
/-- What has been gathered. -/
def idsL (g : Gq) (pre : List (Fin 32)) : List Int := pre.flatMap fun j => (g.L j.val).map g.id
theorem idsL_snoc (g : Gq) (pre : List (Fin 32)) (x : Fin 32) : idsL g (pre ++ [x]) = idsL g pre ++ (g.L x.val).map g.id := by simp [idsL]
theorem down_flat {g : Gq} {s : StU} (h : TellQ g s) : ∀ n, n ≤ 32 → (downL n).flatMap (fun j => (g.L j).map g.id) = downU s.list n
  | 0, _ => rfl
  | n + 1, hn => by rw [downL, List.flatMap_cons, downU, down_flat h n (by omega), h.ids n (by omega)]
theorem idsL_all {g : Gq} {s : StU} (h : TellQ g s) : idsL g downF = leftU s := by
  rw [← h.all, ← down_flat h 32 (Nat.le_refl _), ← downF_val, List.flatMap_map]
  rfl
theorem idsL_le {g : Gq} {s : StU} (h : TellQ g s) {pre : List (Fin 32)} {x : Fin 32} {dn rs : List Nat} (hp : pre ++ [x] <+: downF) (hL : g.L x.val = dn ++ rs) : (idsL g pre).length + dn.length + rs.length ≤ s.list.length := by
  obtain ⟨suf, e⟩ := hp
  have h1 := idsL_all h
  rw [← e] at h1
  have h2 : idsL g (pre ++ [x] ++ suf) = idsL g (pre ++ [x]) ++ idsL g suf := by simp [idsL]
  rw [h2, idsL_snoc, hL] at h1
  have h3 := congrArg List.length h1
  simp only [List.length_append, List.length_map] at h3
  have h4 : (leftU s).length = s.list.length := by simp [leftU]
  omega
/-- Where the gathering stands. -/
def GatherR (g : Gq) (n0 Bx : Nat) (zs : List Int) (W : World) : Prop := ∃ v, Boxed W Bx 24 v ∧ W.ownsRow n0 3 1 v zs.length (shI.flat zs) ∧ (g = g)
/-- What type a row's block has. -/
def TyOf (W : World) (e : TypeId) (r : Option Nat) : Prop := ∀ b, r = some b → ∃ cs, W.heap[b]? = some (.cells cs e (0, 0))
theorem own_ty {w : World} {base e size n : Nat} {v : Value} {xs : List Value} (h : w.ownsRow base e size v n xs) : TyOf w e v.ownBlock := by
  intro b hb
  obtain ⟨h1, h2⟩ := h
  rcases h2 with ⟨rfl, _⟩ | ⟨g', cap, cur, hv, _, hh, r⟩
  · cases hb
  · rw [hv] at hb
    simp only [Value.ownBlock, Option.some.injEq] at hb
    subst hb
    exact ⟨cur, hh⟩
theorem box_stays {n0 Bs Bx : Nat} {W wr w4 : World} {tmp : Obj} {v v' : Value} (h : KeepB n0 Bs W wr) (hg : (wr.drew.alloc tmp).grownBy w4 v.ownBlock) (ht : TyOf (wr.drew.alloc tmp) 3 v.ownBlock) (hb : Below n0 wr.drew (w4.setCell ⟨Bx, 0, none⟩ v')) (hne : ¬ Bs = Bx) : KeepB n0 Bs W (w4.setCell ⟨Bx, 0, none⟩ v') := by
  refine ⟨h.1.trans ((Below.refl _ _).drew.trans hb), fun u hu => ?_⟩
  have h1 : Boxed (wr.drew.alloc tmp) Bs 80 u := Boxed.alloc (W := wr.drew) (h.2 u hu) tmp
  have h2 : Boxed w4 Bs 80 u := h1.kept hg fun e => by
    obtain ⟨cs, hc⟩ := ht Bs e.symm
    rw [show (wr.drew.alloc tmp).heap[Bs]? = _ from h1] at hc
    simp only [Option.some.injEq, Obj.cells.injEq] at hc
    exact absurd hc.2.1 (by decide)
  exact h2.other hne v'
set_option maxRecDepth 100000 in
set_option maxHeartbeats 2000000 in
theorem remaining_come {w0 w : World} {B m L : Nat} {g : Gq} {R : Array Value} {tv : Value} {s : StU} {cnt : Nat} {taken : List Int} (F : Fence) (n : Nat) (hFa : ∀ f, F.fn f) (hro : F.round = none) (hn : 3 ≤ n) (HM : Hid (MemQ w0 w B m L g R tv taken cnt)) (HT : Hid (TellQ g s)) (hc : cnt ≤ 10000000000000) (hcs : Hid (s.list.length = cnt)) :
    CallsIn F n Try.prog 27 #[.pointer (some ⟨B, 0, none⟩)] w fun e w' =>
      ∃ v, e = .returned v ∧ w'.ownsRow w.heap.size 3 1 v cnt (shI.flat (leftU s)) ∧ Below w.heap.size w w' := by
  have h1 : 1 ≤ n := by omega
  obtain ⟨i0, hi, hz0, hz1, hz2⟩ := info_parts info_int
  have cm := HM.out.cell HM.out.rm
  have hBl := HM.out.lt
  obtain ⟨D, o1, TD⟩ := HM.out.mp
  have hlen : ∀ ty : TypeId, (Builtin.len_ #[53] ty #[.map (some m)]).run Try.prog w = .ok (.int .i64 (cnt : Int)) w := fun ty => by
    have h := o1.len Try.underlying53 ty
    rw [TD.sz] at h
    exact h
  have hb2 : i0.bytes * cnt ≤ 281474976710656 := by rw [hz2]; omega
  have hb3 : cnt ≤ maxLen := by unfold maxLen; omega
  clear o1 TD
  refine callsIn_of_wp_marks Try.func27 rfl (hFa _) ?_ hro
  simp only [Try.ntmps27, List.size_toArray, List.length_cons, List.length_nil, Nat.reduceAdd, Nat.reduceSub, Array.replicate_succ, Array.replicate_zero, List.push_toArray, List.append_toArray, List.nil_append, List.cons_append]
  gi_wp2_with (first
    | (gi_at_make; refine wpListIn_make_own _ rfl _ _ 24 rfl w.heap.size 3 i0 _ 1 Try.underlying24 hi hz0 hz1 .i64 .i64 _ cnt rfl rfl rfl hb2 hb3 (Nat.le_refl _) ?_; intro w1 hown hgrow)
    | gi_in)
  have HW1 : Hid (Below w.heap.size w w1) := Lib.hid ((Below.refl _ _).grown hgrow (Nat.le_refl _) (fun k hk => by cases hk))
  have HOW := Lib.hid hown
  refine (backward_in F (n - 1) hFa hro _ _ _ _).mono ?_
  rintro e w2 ⟨rfl, rfl⟩
  gi_wp2
  obtain ⟨n0, hn0⟩ : ∃ n0, w.heap.size = n0 := ⟨_, rfl⟩
  have hn01 : n0 ≤ w1.heap.size := by rw [← hn0]; exact HW1.out.size
  have HN0 := Lib.hid hn0
  obtain ⟨vi, hvi⟩ : ∃ vi, Value.slice (some ⟨w.heap.size, 0, none⟩) 0 cnt = vi := ⟨_, rfl⟩
  have HB2 : Below n0 w ((w1.alloc (.cells #[vi] 24)).alloc (.cells #[.slice (some ⟨B, 0, none⟩) 32 32] 80)) := by
    have := (HW1.out.alloc HW1.out.size (.cells #[vi] 24)).alloc (by simp; have := HW1.out.size; omega) (.cells #[.slice (some ⟨B, 0, none⟩) 32 32] 80)
    rw [hn0] at this
    exact this
  have HX2 : Boxed ((w1.alloc (.cells #[vi] 24)).alloc (.cells #[.slice (some ⟨B, 0, none⟩) 32 32] 80)) w1.heap.size 24 vi := (Boxed.new w1 _ _).alloc _
  have HS2 : Boxed ((w1.alloc (.cells #[vi] 24)).alloc (.cells #[.slice (some ⟨B, 0, none⟩) 32 32] 80)) (w1.heap.size + 1) 80 (.slice (some ⟨B, 0, none⟩) 32 32) := by
    have := Boxed.new (w1.alloc (.cells #[vi] 24)) 80 (.slice (some ⟨B, 0, none⟩) 32 32)
    rw [World.size_alloc] at this
    exact this
  have HR2 : ((w1.alloc (.cells #[vi] 24)).alloc (.cells #[.slice (some ⟨B, 0, none⟩) 32 32] 80)).ownsRow n0 3 1 vi 0 [] := by
    have h := own_step HOW.out (below_two w1 (.cells #[vi] 24) (.cells #[.slice (some ⟨B, 0, none⟩) 32 32] 80))
    rw [hvi, hn0] at h
    exact h
  rw [hvi]
  have hsz : w1.heap.size + 1 < ((w1.alloc (.cells #[vi] 24)).alloc (.cells #[.slice (some ⟨B, 0, none⟩) 32 32] 80)).heap.size := by simp
  generalize (w1.alloc (.cells #[vi] 24)).alloc (.cells #[.slice (some ⟨B, 0, none⟩) 32 32] 80) = w2 at HB2 HX2 HS2 HR2 hsz ⊢
  have hn2 : n0 ≤ w2.heap.size := by omega
  obtain ⟨Bx, hBx⟩ : ∃ Bx, w1.heap.size = Bx := ⟨_, rfl⟩
  obtain ⟨Bs, hBs⟩ : ∃ Bs, w1.heap.size + 1 = Bs := ⟨_, rfl⟩
  rw [hBs] at HS2 hsz ⊢
  rw [hBx] at HX2 hn01 ⊢
  have hXS : ¬ Bs = Bx := by omega
  have HC2 := Lib.hid HS2
  have HBB := Lib.hid HB2
  have HEN : Hid (∀ j, j < 32 → w.cell? ⟨B, j, none⟩ = some (.pointer (some ⟨g.e j, 0, none⟩))) := Lib.hid fun j hj => HM.out.cell (HM.out.re j hj)
  have H0 : Hid (GatherR g n0 Bx [] w2) := Lib.hid ⟨vi, HX2, HR2, rfl⟩
  clear HX2 HS2 HR2 hvi hBx hBs hgrow hown HOW cm hlen hb2 hb3 HB2 HW1
  refine rangeX hro h1 (f := 51) (lb := #[.pointer (some ⟨Bs, 0, none⟩)]) rfl (hFa _) (enters_of Try.func51 (by kernel_rfl) rfl)
    (back_seq (n0 := n0) F (n - 1) (hFa _) hro (by omega) Bs w w2 HEN hBl HN0 HBB HC2) keepB_t (keepB_b hn2) (fun _ => rfl)
    (fun pre W => GatherR g n0 Bx (idsL g pre) W ∧ Below n0 w W)
    (OwnFrom.and (Own.from (holdsRow_own n0 Bx 24 3 1 (fun pre : List (Fin 32) => (idsL g pre).length) (fun pre => shI.flat (idsL g pre)) (fun _ _ => g = g)) _) (ownFrom_below (by omega) hn2))
    ⟨H0.out, HBB.out⟩
    (fun x => { tmps := #[.pointer (some ⟨B, 0, none⟩), undef, .slice none 0 0, .pointer (some ⟨Bx, 0, none⟩), undef, .pointer (some ⟨g.e x.val, 0, none⟩), undef, .pointer (some ⟨B, 0, none⟩), .pointer (some ⟨B, 0, none⟩), .pointer (some ⟨B, 32, none⟩), .map (some m), .int .i64 (cnt : Int), vi, .pointer (some ⟨B, 0, none⟩), .pointer (some ⟨B, 0, none⟩), .pointer (some ⟨B, 0, none⟩), .slice (some ⟨B, 0, none⟩) 32 32, .func (.func 51) #[] #[.pointer (some ⟨Bs, 0, none⟩)], .int .i64 (x.val : Int), .pointer (some ⟨g.e x.val, 0, none⟩), undef, undef, undef, undef, undef, undef, undef, undef, undef, undef, undef, undef, undef, undef, undef, undef, undef, undef, undef], defers := [] }) ?assign ?body ?done
  case assign =>
    intro l x W K hK
    gi_wp2
    exact hK
  case done =>
    rintro D W hD ⟨⟨v, hv, hrow, _⟩, hB⟩ hK
    have hcv := hv.cell
    gi_wp2
    refine ⟨by simp, .inl ⟨_, _, rfl, run_takeDeferred hK, ?_⟩⟩
    rw [idsL_all HT.out] at hrow
    have hl : (leftU s).length = cnt := by rw [← hcs.out]; simp [leftU]
    rw [hl] at hrow
    exact ⟨_, results_tmp rfl _ _ _, v, rfl, ownsRow_putObj hrow _ hK rfl, hB.trans (belowK_b (w := w2) hn2 W D _ _ hD hK rfl rfl)⟩
  case body =>
    intro l pre x W hpre hI
    obtain ⟨hG, hB⟩ := hI
    have hx := x.isLt
    have HG := Lib.hid hG
    have HB := Lib.hid hB
    have HP := Lib.hid hpre
    have ne := (HM.out.nod x.val hx (g.e x.val) List.mem_cons_self).1
    have hwy := HT.out.way x.val hx
    have HWY := Lib.hid hwy
    have ne1 : NodR W g (g.e x.val) := by
      have h := ne
      unfold NodR at h ⊢
      rw [hB.block _ (by rw [← hn0]; exact heap_lt ne)]
      exact h
    obtain ⟨_, _, c2⟩ := ne1.cells
    rw [way_head hwy] at c2
    have hel := heap_lt ne1
    clear hG hB hpre hwy ne
    gi_wp2
    clear c2 ne1 hel
    obtain ⟨y, hy⟩ : ∃ y, g.e x.val = y := ⟨_, rfl⟩
    obtain ⟨Lx, hLx⟩ : ∃ Lx, g.L x.val = Lx := ⟨_, rfl⟩
    obtain ⟨zp, hzp⟩ : ∃ zp, idsL g pre = zp := ⟨_, rfl⟩
    have HY := Lib.hid hy
    have HLX := Lib.hid hLx
    have HZP := Lib.hid hzp
    rw [hzp] at HG
    rw [hy, hLx] at HWY
    rw [hy, hLx]
    clear hy hLx hzp
    gi_loopg [6] (Lx.length) (fun gk p wr => ∃ dn rs q, Hid (Lx = dn ++ rs) ∧ rs.length ≤ gk ∧ Hid (headN rs y = q) ∧ p = .pointer (some ⟨q, 0, none⟩) ∧ Hid (GatherR g n0 Bx (zp ++ dn.map g.id) wr) ∧ Hid (Below n0 w wr) ∧ Hid (KeepsOthers W wr) ∧ Hid (KeepB n0 Bs W wr))
    case atStart => exact ⟨[], Lx, _, Lib.hid rfl, Nat.le_refl _, Lib.hid rfl, rfl, by rw [List.map_nil, List.append_nil]; exact HG, HB, Lib.hid (KeepsOthers.refl _), Lib.hid (KeepB.refl _ _ _)⟩
    case round =>
      clear HG HB
      obtain ⟨dn, rs, q, HL, hrs, HQ, rfl, HG, HB, HKO, HKB⟩ := hrel
      have nod : ∀ b, b ∈ y :: Lx → NodR wr g b := fun b hb => by
        have hm : b ∈ g.e x.val :: g.L x.val := by rw [HY.out, HLX.out]; exact hb
        have h := (HM.out.nod x.val hx b hm).1
        unfold NodR at h ⊢
        rw [HB.out.block _ (by rw [← HN0.out]; exact heap_lt h)]
        exact h
      have ny := nod y List.mem_cons_self
      cases rs with
      | nil =>
        obtain rfl : y = q := HQ.out
        have hq2 := neq_of_eq (eq_same y wr)
        rw [Bool.not_true] at hq2
        clear ny nod
        gi_wp2
        refine ⟨HKO.out.from _, HKB.out, ?_, HB.out⟩
        rw [idsL_snoc, HZP.out, HLX.out, HL.out, List.append_nil]
        exact HG.out
      | cons b r =>
        obtain rfl : b = q := HQ.out
        have nb := nod b (by rw [HL.out]; simp)
        have nd := HT.out.nd x.val hx
        rw [HY.out, HLX.out, HL.out] at nd
        have hby : ¬ b = y := by
          rintro rfl
          exact (List.nodup_cons.1 nd).1 (by simp)
        have hq2 := neq_of_eq (eq_other nb ny hby)
        rw [Bool.not_false] at hq2
        have hw := HWY.out
        rw [HL.out] at hw
        have hnx := way_head (way_app.1 hw).2
        have hle := idsL_le HT.out HP.out (HLX.out.trans HL.out)
        rw [HZP.out, hcs.out, List.length_cons] at hle
        obtain ⟨id, hid⟩ : ∃ id, g.id b = id := ⟨_, rfl⟩
        obtain ⟨q', hq'⟩ : ∃ q', g.nx b = q' := ⟨_, rfl⟩
        obtain ⟨c0, _, c2⟩ := nb.cells
        rw [hid] at c0
        rw [hq'] at c2
        have hbl := heap_lt nb
        have hbn : b < n0 := by
          have hm : b ∈ g.e x.val :: g.L x.val := by rw [HY.out, HLX.out, HL.out]; simp
          rw [← HN0.out]
          exact heap_lt (HM.out.nod x.val hx b hm).1
        obtain ⟨zs, hzs⟩ : ∃ zs, zp ++ dn.map g.id = zs := ⟨_, rfl⟩
        rw [hzs] at HG
        have hzl : zs.length = zp.length + dn.length := by rw [← hzs, List.length_append, List.length_map]
        obtain ⟨k, hk⟩ : ∃ k, zs.length = k := ⟨_, rfl⟩
        have hk1 : k + 1 ≤ 10000000000000 := by omega
        obtain ⟨v, hv, hrow, _⟩ := HG.out
        rw [hk] at hrow
        obtain ⟨ad, cap, rfl, hnc, hcm, _, _⟩ := own_shape hrow
        have HZL := Lib.hid hk
        have HV : Hid (Boxed wr.drew Bx 24 (.slice ad k cap)) := Lib.hid hv
        have HR : Hid (wr.drew.ownsRow n0 3 1 (.slice ad k cap) k (shI.flat zs)) := Lib.hid hrow
        have HO : Hid ((wr.drew.alloc (.cells #[.int .i64 id] 3)).ownsRow n0 3 1 (.slice ad k cap) k (shI.flat zs)) := Lib.hid (own_step (w := wr.drew) hrow (below_alloc wr.drew _))
        have LA : Hid (shI.At (wr.drew.alloc (.cells #[.int .i64 id] 3)) (some ⟨wr.drew.heap.size, 0, none⟩) 1 [id]) := Lib.hid (int_lit wr.drew id 1)
        have hWs : n0 ≤ wr.drew.heap.size := Nat.le_trans (by rw [← HN0.out]; exact Nat.le_refl _) HB.out.size
        have hbs : n0 ≤ (wr.drew.alloc (.cells #[.int .i64 id] 3)).heap.size := by rw [World.size_alloc]; omega
        have hcv := hv.cell
        have hvl := hv.lt
        have HNX := Lib.hid hnx
        have HQ' := Lib.hid hq'
        have HID := Lib.hid hid
        have HZS := Lib.hid hzs
        have HNB : Hid (w.heap.size = n0) := HN0
        have HC2B : Hid (wr.cell? ⟨b, 2, none⟩ = some (.pointer (some ⟨q', 0, none⟩))) := Lib.hid c2
        clear nod ny nb nd hby hw hnx hle hid hq' hzs hzl hk hrow hv
        gi_wp2
        refine wpIn_region_any (by kernel_rfl) ?_
        change wpAnyIn _ _ _ _ _ _ _ _ _ (World.drew _)
        have hXs : n0 ≤ Bx := hn01
        refine wpAnyIn_ready (rs := [0, 1]) (by kernel_rfl) (by simp) (AllReadyIn.cons rfl (fun K hK => ?_) (AllReadyIn.cons rfl (fun K hK => ?_) AllReadyIn.nil))
        · go_simp
          refine hK _ _ ?_
          clear hK K
          refine wpAnyIn_ready (rs := [1]) (by kernel_rfl) (by simp) (AllReadyIn.cons rfl (fun K hK => ?_) AllReadyIn.nil)
          go_simp
          refine hK _ _ ?_
          clear hK K
          refine wpAnyIn_ready (rs := [2]) (by kernel_rfl) (by simp) (AllReadyIn.cons rfl (fun K hK => ?_) AllReadyIn.nil)
          go_simp
          refine hK _ _ ?_
          clear hK K
          refine wpAnyIn_ready (rs := [3]) (by kernel_rfl) (by simp) (AllReadyIn.cons rfl (fun K hK => ?_) AllReadyIn.nil)
          go_simp
          refine hK _ _ ?_
          clear hK K
          refine wpAnyIn_ready (rs := [4]) (by kernel_rfl) (by simp) (AllReadyIn.cons rfl (fun K hK => ?_) AllReadyIn.nil)
          go_simp
          refine hK _ _ ?_
          clear hK K
          refine wpAnyIn_ready (rs := [5]) (by kernel_rfl) (by simp) (AllReadyIn.cons rfl (fun K hK => ?_) AllReadyIn.nil)
          go_simp
          refine hK _ _ ?_
          clear hK K
          refine wpAnyIn_ready (rs := [6]) (by kernel_rfl) (by simp) (AllReadyIn.cons rfl (fun K hK => ?_) AllReadyIn.nil)
          refine opIn_append shI rfl _ _ 24 rfl n0 3 i0 _ 8 Try.underlying24 hi hz0 hz1 hz2 rfl (.slice ad k cap) k zs [id] HZL rfl HO.out (some ⟨wr.drew.heap.size, 0, none⟩) 1 1 rfl (Lib.hid rfl) LA.out (by unfold maxLen; omega) (by omega) hbs ?_
          intro ra4 rc4 w4 own4 grow4
          obtain ⟨hv1, hv2, hr2, hk2, hb2⟩ := HV.out.appended (by decide) HR.out hWs hXs own4 grow4
          have hc1 := hv1.cell
          have hf1 := hv1.frozen
          have hl1 := hv1.lt
          have P1 := Lib.hid grow4
          have P2 := Lib.hid hv2
          have P3 := Lib.hid hr2
          have P4 := Lib.hid hk2
          have P5 := Lib.hid hb2
          clear hv1 hv2 hr2 hk2 hb2 own4 grow4
          try go_simp
          refine hK _ _ ?_
          clear hK K
          refine wpAnyIn_ready (rs := [7]) (by kernel_rfl) (by simp) (AllReadyIn.cons rfl (fun K hK => ?_) AllReadyIn.nil)
          go_simp
          refine hK _ _ ?_
          clear hK K
          refine wpAnyIn_done (by kernel_rfl) ?_ _
          clear hc1 hf1 hl1
          have BN := HB.out.drew.trans P5.out
          have c3 : (w4.setCell ⟨Bx, 0, none⟩ (.slice ra4 (k + 1) rc4)).cell? ⟨b, 2, none⟩ = some (.pointer (some ⟨q', 0, none⟩)) := ((P5.out.cell (p := ⟨b, 2, none⟩) hbn).trans HC2B.out)
          have hb3 : b < (w4.setCell ⟨Bx, 0, none⟩ (.slice ra4 (k + 1) rc4)).heap.size := Nat.lt_of_lt_of_le hbl P5.out.size
          have HKS := Lib.hid (box_stays HKB.out P1.out (own_ty HO.out) P5.out hXS)
          have HBN := Lib.hid BN
          generalize w4.setCell ⟨Bx, 0, none⟩ (.slice ra4 (k + 1) rc4) = w5 at P2 P3 P4 P5 c3 hb3 HKS HBN ⊢
          clear BN
          gi_wp2
          gi_roundg (r.length)
          case measure => simp only [List.length_cons] at hrs; omega
          case rel =>
            refine ⟨dn ++ [b], r, q', Lib.hid (by rw [HL.out]; simp), Nat.le_refl _, Lib.hid (HNX.out.symm.trans HQ'.out), rfl, Lib.hid ?_, HBN, Lib.hid (HKO.out.trans ((KeepsOthers.drew wr).trans P4.out)), HKS⟩
            rw [List.map_append, List.map_cons, List.map_nil, HID.out, ← List.append_assoc, HZS.out]
            exact ⟨_, P2.out, by rw [List.length_append, HZL.out]; exact P3.out, rfl⟩
        · go_simp
          refine hK _ _ ?_
          clear hK K
          refine wpAnyIn_ready (rs := [0, 2]) (by kernel_rfl) (by simp) (AllReadyIn.cons rfl (fun K hK => ?_) (AllReadyIn.cons rfl (fun K hK => ?_) AllReadyIn.nil))
          · go_simp
            refine hK _ _ ?_
            clear hK K
            refine wpAnyIn_ready (rs := [2]) (by kernel_rfl) (by simp) (AllReadyIn.cons rfl (fun K hK => ?_) AllReadyIn.nil)
            go_simp
            refine hK _ _ ?_
            clear hK K
            refine wpAnyIn_ready (rs := [3]) (by kernel_rfl) (by simp) (AllReadyIn.cons rfl (fun K hK => ?_) AllReadyIn.nil)
            go_simp
            refine hK _ _ ?_
            clear hK K
            refine wpAnyIn_ready (rs := [4]) (by kernel_rfl) (by simp) (AllReadyIn.cons rfl (fun K hK => ?_) AllReadyIn.nil)
            go_simp
            refine hK _ _ ?_
            clear hK K
            refine wpAnyIn_ready (rs := [5]) (by kernel_rfl) (by simp) (AllReadyIn.cons rfl (fun K hK => ?_) AllReadyIn.nil)
            go_simp
            refine hK _ _ ?_
            clear hK K
            refine wpAnyIn_ready (rs := [6]) (by kernel_rfl) (by simp) (AllReadyIn.cons rfl (fun K hK => ?_) AllReadyIn.nil)
            refine opIn_append shI rfl _ _ 24 rfl n0 3 i0 _ 8 Try.underlying24 hi hz0 hz1 hz2 rfl (.slice ad k cap) k zs [id] HZL rfl HO.out (some ⟨wr.drew.heap.size, 0, none⟩) 1 1 rfl (Lib.hid rfl) LA.out (by unfold maxLen; omega) (by omega) hbs ?_
            intro ra4 rc4 w4 own4 grow4
            obtain ⟨hv1, hv2, hr2, hk2, hb2⟩ := HV.out.appended (by decide) HR.out hWs hXs own4 grow4
            have hc1 := hv1.cell
            have hf1 := hv1.frozen
            have hl1 := hv1.lt
            have P1 := Lib.hid grow4
            have P2 := Lib.hid hv2
            have P3 := Lib.hid hr2
            have P4 := Lib.hid hk2
            have P5 := Lib.hid hb2
            clear hv1 hv2 hr2 hk2 hb2 own4 grow4
            try go_simp
            refine hK _ _ ?_
            clear hK K
            refine wpAnyIn_ready (rs := [7]) (by kernel_rfl) (by simp) (AllReadyIn.cons rfl (fun K hK => ?_) AllReadyIn.nil)
            go_simp
            refine hK _ _ ?_
            clear hK K
            refine wpAnyIn_done (by kernel_rfl) ?_ _
            clear hc1 hf1 hl1
            have BN := HB.out.drew.trans P5.out
            have c3 : (w4.setCell ⟨Bx, 0, none⟩ (.slice ra4 (k + 1) rc4)).cell? ⟨b, 2, none⟩ = some (.pointer (some ⟨q', 0, none⟩)) := ((P5.out.cell (p := ⟨b, 2, none⟩) hbn).trans HC2B.out)
            have hb3 : b < (w4.setCell ⟨Bx, 0, none⟩ (.slice ra4 (k + 1) rc4)).heap.size := Nat.lt_of_lt_of_le hbl P5.out.size
            have HKS := Lib.hid (box_stays HKB.out P1.out (own_ty HO.out) P5.out hXS)
            have HBN := Lib.hid BN
            generalize w4.setCell ⟨Bx, 0, none⟩ (.slice ra4 (k + 1) rc4) = w5 at P2 P3 P4 P5 c3 hb3 HKS HBN ⊢
            clear BN
            gi_wp2
            gi_roundg (r.length)
            case measure => simp only [List.length_cons] at hrs; omega
            case rel =>
              refine ⟨dn ++ [b], r, q', Lib.hid (by rw [HL.out]; simp), Nat.le_refl _, Lib.hid (HNX.out.symm.trans HQ'.out), rfl, Lib.hid ?_, HBN, Lib.hid (HKO.out.trans ((KeepsOthers.drew wr).trans P4.out)), HKS⟩
              rw [List.map_append, List.map_cons, List.map_nil, HID.out, ← List.append_assoc, HZS.out]
              exact ⟨_, P2.out, by rw [List.length_append, HZL.out]; exact P3.out, rfl⟩
          · go_simp
            refine hK _ _ ?_
            clear hK K
            refine wpAnyIn_ready (rs := [0, 3]) (by kernel_rfl) (by simp) (AllReadyIn.cons rfl (fun K hK => ?_) (AllReadyIn.cons rfl (fun K hK => ?_) AllReadyIn.nil))
            · go_simp
              refine hK _ _ ?_
              clear hK K
              refine wpAnyIn_ready (rs := [3]) (by kernel_rfl) (by simp) (AllReadyIn.cons rfl (fun K hK => ?_) AllReadyIn.nil)
              go_simp
              refine hK _ _ ?_
              clear hK K
              refine wpAnyIn_ready (rs := [4]) (by kernel_rfl) (by simp) (AllReadyIn.cons rfl (fun K hK => ?_) AllReadyIn.nil)
              go_simp
              refine hK _ _ ?_
              clear hK K
              refine wpAnyIn_ready (rs := [5]) (by kernel_rfl) (by simp) (AllReadyIn.cons rfl (fun K hK => ?_) AllReadyIn.nil)
              go_simp
              refine hK _ _ ?_
              clear hK K
              refine wpAnyIn_ready (rs := [6]) (by kernel_rfl) (by simp) (AllReadyIn.cons rfl (fun K hK => ?_) AllReadyIn.nil)
              refine opIn_append shI rfl _ _ 24 rfl n0 3 i0 _ 8 Try.underlying24 hi hz0 hz1 hz2 rfl (.slice ad k cap) k zs [id] HZL rfl HO.out (some ⟨wr.drew.heap.size, 0, none⟩) 1 1 rfl (Lib.hid rfl) LA.out (by unfold maxLen; omega) (by omega) hbs ?_
              intro ra4 rc4 w4 own4 grow4
              obtain ⟨hv1, hv2, hr2, hk2, hb2⟩ := HV.out.appended (by decide) HR.out hWs hXs own4 grow4
              have hc1 := hv1.cell
              have hf1 := hv1.frozen
              have hl1 := hv1.lt
              have P1 := Lib.hid grow4
              have P2 := Lib.hid hv2
              have P3 := Lib.hid hr2
              have P4 := Lib.hid hk2
              have P5 := Lib.hid hb2
              clear hv1 hv2 hr2 hk2 hb2 own4 grow4
              try go_simp
              refine hK _ _ ?_
              clear hK K
              refine wpAnyIn_ready (rs := [7]) (by kernel_rfl) (by simp) (AllReadyIn.cons rfl (fun K hK => ?_) AllReadyIn.nil)
              go_simp
              refine hK _ _ ?_
              clear hK K
              refine wpAnyIn_done (by kernel_rfl) ?_ _
              clear hc1 hf1 hl1
              have BN := HB.out.drew.trans P5.out
              have c3 : (w4.setCell ⟨Bx, 0, none⟩ (.slice ra4 (k + 1) rc4)).cell? ⟨b, 2, none⟩ = some (.pointer (some ⟨q', 0, none⟩)) := ((P5.out.cell (p := ⟨b, 2, none⟩) hbn).trans HC2B.out)
              have hb3 : b < (w4.setCell ⟨Bx, 0, none⟩ (.slice ra4 (k + 1) rc4)).heap.size := Nat.lt_of_lt_of_le hbl P5.out.size
              have HKS := Lib.hid (box_stays HKB.out P1.out (own_ty HO.out) P5.out hXS)
              have HBN := Lib.hid BN
              generalize w4.setCell ⟨Bx, 0, none⟩ (.slice ra4 (k + 1) rc4) = w5 at P2 P3 P4 P5 c3 hb3 HKS HBN ⊢
              clear BN
              gi_wp2
              gi_roundg (r.length)
              case measure => simp only [List.length_cons] at hrs; omega
              case rel =>
                refine ⟨dn ++ [b], r, q', Lib.hid (by rw [HL.out]; simp), Nat.le_refl _, Lib.hid (HNX.out.symm.trans HQ'.out), rfl, Lib.hid ?_, HBN, Lib.hid (HKO.out.trans ((KeepsOthers.drew wr).trans P4.out)), HKS⟩
                rw [List.map_append, List.map_cons, List.map_nil, HID.out, ← List.append_assoc, HZS.out]
                exact ⟨_, P2.out, by rw [List.length_append, HZL.out]; exact P3.out, rfl⟩
            · go_simp
              refine hK _ _ ?_
              clear hK K
              refine wpAnyIn_ready (rs := [0, 4]) (by kernel_rfl) (by simp) (AllReadyIn.cons rfl (fun K hK => ?_) (AllReadyIn.cons rfl (fun K hK => ?_) AllReadyIn.nil))
              · go_simp
                refine hK _ _ ?_
                clear hK K
                refine wpAnyIn_ready (rs := [4]) (by kernel_rfl) (by simp) (AllReadyIn.cons rfl (fun K hK => ?_) AllReadyIn.nil)
                go_simp
                refine hK _ _ ?_
                clear hK K
                refine wpAnyIn_ready (rs := [5]) (by kernel_rfl) (by simp) (AllReadyIn.cons rfl (fun K hK => ?_) AllReadyIn.nil)
                go_simp
                refine hK _ _ ?_
                clear hK K
                refine wpAnyIn_ready (rs := [6]) (by kernel_rfl) (by simp) (AllReadyIn.cons rfl (fun K hK => ?_) AllReadyIn.nil)
                refine opIn_append shI rfl _ _ 24 rfl n0 3 i0 _ 8 Try.underlying24 hi hz0 hz1 hz2 rfl (.slice ad k cap) k zs [id] HZL rfl HO.out (some ⟨wr.drew.heap.size, 0, none⟩) 1 1 rfl (Lib.hid rfl) LA.out (by unfold maxLen; omega) (by omega) hbs ?_
                intro ra4 rc4 w4 own4 grow4
                obtain ⟨hv1, hv2, hr2, hk2, hb2⟩ := HV.out.appended (by decide) HR.out hWs hXs own4 grow4
                have hc1 := hv1.cell
                have hf1 := hv1.frozen
                have hl1 := hv1.lt
                have P1 := Lib.hid grow4
                have P2 := Lib.hid hv2
                have P3 := Lib.hid hr2
                have P4 := Lib.hid hk2
                have P5 := Lib.hid hb2
                clear hv1 hv2 hr2 hk2 hb2 own4 grow4
                try go_simp
                refine hK _ _ ?_
                clear hK K
                refine wpAnyIn_ready (rs := [7]) (by kernel_rfl) (by simp) (AllReadyIn.cons rfl (fun K hK => ?_) AllReadyIn.nil)
                go_simp
                refine hK _ _ ?_
                clear hK K
                refine wpAnyIn_done (by kernel_rfl) ?_ _
                clear hc1 hf1 hl1
                have BN := HB.out.drew.trans P5.out
                have c3 : (w4.setCell ⟨Bx, 0, none⟩ (.slice ra4 (k + 1) rc4)).cell? ⟨b, 2, none⟩ = some (.pointer (some ⟨q', 0, none⟩)) := ((P5.out.cell (p := ⟨b, 2, none⟩) hbn).trans HC2B.out)
                have hb3 : b < (w4.setCell ⟨Bx, 0, none⟩ (.slice ra4 (k + 1) rc4)).heap.size := Nat.lt_of_lt_of_le hbl P5.out.size
                have HKS := Lib.hid (box_stays HKB.out P1.out (own_ty HO.out) P5.out hXS)
                have HBN := Lib.hid BN
                generalize w4.setCell ⟨Bx, 0, none⟩ (.slice ra4 (k + 1) rc4) = w5 at P2 P3 P4 P5 c3 hb3 HKS HBN ⊢
                clear BN
                gi_wp2
                gi_roundg (r.length)
                case measure => simp only [List.length_cons] at hrs; omega
                case rel =>
                  refine ⟨dn ++ [b], r, q', Lib.hid (by rw [HL.out]; simp), Nat.le_refl _, Lib.hid (HNX.out.symm.trans HQ'.out), rfl, Lib.hid ?_, HBN, Lib.hid (HKO.out.trans ((KeepsOthers.drew wr).trans P4.out)), HKS⟩
                  rw [List.map_append, List.map_cons, List.map_nil, HID.out, ← List.append_assoc, HZS.out]
                  exact ⟨_, P2.out, by rw [List.length_append, HZL.out]; exact P3.out, rfl⟩
              · go_simp
                refine hK _ _ ?_
                clear hK K
                refine wpAnyIn_ready (rs := [0, 5]) (by kernel_rfl) (by simp) (AllReadyIn.cons rfl (fun K hK => ?_) (AllReadyIn.cons rfl (fun K hK => ?_) AllReadyIn.nil))
                · go_simp
                  refine hK _ _ ?_
                  clear hK K
                  refine wpAnyIn_ready (rs := [5]) (by kernel_rfl) (by simp) (AllReadyIn.cons rfl (fun K hK => ?_) AllReadyIn.nil)
                  go_simp
                  refine hK _ _ ?_
                  clear hK K
                  refine wpAnyIn_ready (rs := [6]) (by kernel_rfl) (by simp) (AllReadyIn.cons rfl (fun K hK => ?_) AllReadyIn.nil)
                  refine opIn_append shI rfl _ _ 24 rfl n0 3 i0 _ 8 Try.underlying24 hi hz0 hz1 hz2 rfl (.slice ad k cap) k zs [id] HZL rfl HO.out (some ⟨wr.drew.heap.size, 0, none⟩) 1 1 rfl (Lib.hid rfl) LA.out (by unfold maxLen; omega) (by omega) hbs ?_
                  intro ra4 rc4 w4 own4 grow4
                  obtain ⟨hv1, hv2, hr2, hk2, hb2⟩ := HV.out.appended (by decide) HR.out hWs hXs own4 grow4
                  have hc1 := hv1.cell
                  have hf1 := hv1.frozen
                  have hl1 := hv1.lt
                  have P1 := Lib.hid grow4
                  have P2 := Lib.hid hv2
                  have P3 := Lib.hid hr2
                  have P4 := Lib.hid hk2
                  have P5 := Lib.hid hb2
                  clear hv1 hv2 hr2 hk2 hb2 own4 grow4
                  try go_simp
                  refine hK _ _ ?_
                  clear hK K
                  refine wpAnyIn_ready (rs := [7]) (by kernel_rfl) (by simp) (AllReadyIn.cons rfl (fun K hK => ?_) AllReadyIn.nil)
                  go_simp
                  refine hK _ _ ?_
                  clear hK K
                  refine wpAnyIn_done (by kernel_rfl) ?_ _
                  clear hc1 hf1 hl1
                  have BN := HB.out.drew.trans P5.out
                  have c3 : (w4.setCell ⟨Bx, 0, none⟩ (.slice ra4 (k + 1) rc4)).cell? ⟨b, 2, none⟩ = some (.pointer (some ⟨q', 0, none⟩)) := ((P5.out.cell (p := ⟨b, 2, none⟩) hbn).trans HC2B.out)
                  have hb3 : b < (w4.setCell ⟨Bx, 0, none⟩ (.slice ra4 (k + 1) rc4)).heap.size := Nat.lt_of_lt_of_le hbl P5.out.size
                  have HKS := Lib.hid (box_stays HKB.out P1.out (own_ty HO.out) P5.out hXS)
                  have HBN := Lib.hid BN
                  generalize w4.setCell ⟨Bx, 0, none⟩ (.slice ra4 (k + 1) rc4) = w5 at P2 P3 P4 P5 c3 hb3 HKS HBN ⊢
                  clear BN
                  gi_wp2
                  gi_roundg (r.length)
                  case measure => simp only [List.length_cons] at hrs; omega
                  case rel =>
                    refine ⟨dn ++ [b], r, q', Lib.hid (by rw [HL.out]; simp), Nat.le_refl _, Lib.hid (HNX.out.symm.trans HQ'.out), rfl, Lib.hid ?_, HBN, Lib.hid (HKO.out.trans ((KeepsOthers.drew wr).trans P4.out)), HKS⟩
                    rw [List.map_append, List.map_cons, List.map_nil, HID.out, ← List.append_assoc, HZS.out]
                    exact ⟨_, P2.out, by rw [List.length_append, HZL.out]; exact P3.out, rfl⟩
                · go_simp
                  refine hK _ _ ?_
                  clear hK K
                  refine wpAnyIn_ready (rs := [0]) (by kernel_rfl) (by simp) (AllReadyIn.cons rfl (fun K hK => ?_) AllReadyIn.nil)
                  go_simp
                  refine hK _ _ ?_
                  clear hK K
                  refine wpAnyIn_ready (rs := [6]) (by kernel_rfl) (by simp) (AllReadyIn.cons rfl (fun K hK => ?_) AllReadyIn.nil)
                  refine opIn_append shI rfl _ _ 24 rfl n0 3 i0 _ 8 Try.underlying24 hi hz0 hz1 hz2 rfl (.slice ad k cap) k zs [id] HZL rfl HO.out (some ⟨wr.drew.heap.size, 0, none⟩) 1 1 rfl (Lib.hid rfl) LA.out (by unfold maxLen; omega) (by omega) hbs ?_
                  intro ra4 rc4 w4 own4 grow4
                  obtain ⟨hv1, hv2, hr2, hk2, hb2⟩ := HV.out.appended (by decide) HR.out hWs hXs own4 grow4
                  have hc1 := hv1.cell
                  have hf1 := hv1.frozen
                  have hl1 := hv1.lt
                  have P1 := Lib.hid grow4
                  have P2 := Lib.hid hv2
                  have P3 := Lib.hid hr2
                  have P4 := Lib.hid hk2
                  have P5 := Lib.hid hb2
                  clear hv1 hv2 hr2 hk2 hb2 own4 grow4
                  try go_simp
                  refine hK _ _ ?_
                  clear hK K
                  refine wpAnyIn_ready (rs := [7]) (by kernel_rfl) (by simp) (AllReadyIn.cons rfl (fun K hK => ?_) AllReadyIn.nil)
                  go_simp
                  refine hK _ _ ?_
                  clear hK K
                  refine wpAnyIn_done (by kernel_rfl) ?_ _
                  clear hc1 hf1 hl1
                  have BN := HB.out.drew.trans P5.out
                  have c3 : (w4.setCell ⟨Bx, 0, none⟩ (.slice ra4 (k + 1) rc4)).cell? ⟨b, 2, none⟩ = some (.pointer (some ⟨q', 0, none⟩)) := ((P5.out.cell (p := ⟨b, 2, none⟩) hbn).trans HC2B.out)
                  have hb3 : b < (w4.setCell ⟨Bx, 0, none⟩ (.slice ra4 (k + 1) rc4)).heap.size := Nat.lt_of_lt_of_le hbl P5.out.size
                  have HKS := Lib.hid (box_stays HKB.out P1.out (own_ty HO.out) P5.out hXS)
                  have HBN := Lib.hid BN
                  generalize w4.setCell ⟨Bx, 0, none⟩ (.slice ra4 (k + 1) rc4) = w5 at P2 P3 P4 P5 c3 hb3 HKS HBN ⊢
                  clear BN
                  gi_wp2
                  gi_roundg (r.length)
                  case measure => simp only [List.length_cons] at hrs; omega
                  case rel =>
                    refine ⟨dn ++ [b], r, q', Lib.hid (by rw [HL.out]; simp), Nat.le_refl _, Lib.hid (HNX.out.symm.trans HQ'.out), rfl, Lib.hid ?_, HBN, Lib.hid (HKO.out.trans ((KeepsOthers.drew wr).trans P4.out)), HKS⟩
                    rw [List.map_append, List.map_cons, List.map_nil, HID.out, ← List.append_assoc, HZS.out]
                    exact ⟨_, P2.out, by rw [List.length_append, HZL.out]; exact P3.out, rfl⟩
end Go.Proofs.Ytgnpodeneknpdaa
