/- The walk of corebellkeep.BitsRing: union and intersection as products and sums: it returns true for every three sets. -/
import Derived.Test.YtcpoakikeahjeaaDoorBitsJ
namespace Go.Proofs.YtcpoakikeahjeaaDoor
open Go.RowKit

theorem bothR (a0 a1 a2 a3 b0 b1 b2 b3 r0 r1 r2 r3 : Nat) (w : World) (h : Hid (Ok a0 a1 a2 a3)) (h' : Hid (Ok b0 b1 b2 b3)) (hr : Hid (a0 &&& b0 = r0 ∧ a1 &&& b1 = r1 ∧ a2 &&& b2 = r2 ∧ a3 &&& b3 = r3)) :
    Calls Tryd.prog 21 #[.agg #[.int .u64 (a0 : Nat), .int .u64 (a1 : Nat), .int .u64 (a2 : Nat), .int .u64 (a3 : Nat)], .agg #[.int .u64 (b0 : Nat), .int .u64 (b1 : Nat), .int .u64 (b2 : Nat), .int .u64 (b3 : Nat)]] w fun e w' => e = .returned (.agg #[.int .u64 (r0 : Nat), .int .u64 (r1 : Nat), .int .u64 (r2 : Nat), .int .u64 (r3 : Nat)]) ∧ Below w.heap.size w w' := by
  obtain ⟨rfl, rfl, rfl, rfl⟩ := hr.out
  exact both a0 a1 a2 a3 b0 b1 b2 b3 w h.out h'.out
theorem eitherR (a0 a1 a2 a3 b0 b1 b2 b3 r0 r1 r2 r3 : Nat) (w : World) (h : Hid (Ok a0 a1 a2 a3)) (h' : Hid (Ok b0 b1 b2 b3)) (hr : Hid (a0 ||| b0 = r0 ∧ a1 ||| b1 = r1 ∧ a2 ||| b2 = r2 ∧ a3 ||| b3 = r3)) :
    Calls Tryd.prog 22 #[.agg #[.int .u64 (a0 : Nat), .int .u64 (a1 : Nat), .int .u64 (a2 : Nat), .int .u64 (a3 : Nat)], .agg #[.int .u64 (b0 : Nat), .int .u64 (b1 : Nat), .int .u64 (b2 : Nat), .int .u64 (b3 : Nat)]] w fun e w' => e = .returned (.agg #[.int .u64 (r0 : Nat), .int .u64 (r1 : Nat), .int .u64 (r2 : Nat), .int .u64 (r3 : Nat)]) ∧ Below w.heap.size w w' := by
  obtain ⟨rfl, rfl, rfl, rfl⟩ := hr.out
  exact either a0 a1 a2 a3 b0 b1 b2 b3 w h.out h'.out

/-- Three sets in variables of their own, and nothing that was there has turned. -/
def Three (W : World) (a0 a1 a2 a3 b0 b1 b2 b3 c0 c1 c2 c3 : Nat) (w : World) : Prop := Box w W.heap.size a0 a1 a2 a3 ∧ Box w (W.heap.size + 1) b0 b1 b2 b3 ∧ Box w (W.heap.size + 2) c0 c1 c2 c3 ∧ Below W.heap.size W w
theorem Three.step {W w w' : World} {a0 a1 a2 a3 b0 b1 b2 b3 c0 c1 c2 c3 : Nat} (h : Three W a0 a1 a2 a3 b0 b1 b2 b3 c0 c1 c2 c3 w) (hb : Below w.heap.size w w') : Three W a0 a1 a2 a3 b0 b1 b2 b3 c0 c1 c2 c3 w' :=
  ⟨h.1.below hb h.1.lt, h.2.1.below hb h.2.1.lt, h.2.2.1.below hb h.2.2.1.lt, h.2.2.2.trans (hb.mono h.2.2.2.size)⟩
theorem three_start (W w' : World) (a0 a1 a2 a3 b0 b1 b2 b3 c0 c1 c2 c3 : Nat) (o1 o2 o3 : Obj)
    (e1 : o1 = .cells #[.int .u64 (a0 : Nat), .int .u64 (a1 : Nat), .int .u64 (a2 : Nat), .int .u64 (a3 : Nat)] 24) (e2 : o2 = .cells #[.int .u64 (b0 : Nat), .int .u64 (b1 : Nat), .int .u64 (b2 : Nat), .int .u64 (b3 : Nat)] 24) (e3 : o3 = .cells #[.int .u64 (c0 : Nat), .int .u64 (c1 : Nat), .int .u64 (c2 : Nat), .int .u64 (c3 : Nat)] 24)
    (hb : Below (((W.alloc o1).alloc o2).alloc o3).heap.size (((W.alloc o1).alloc o2).alloc o3) w') : Three W a0 a1 a2 a3 b0 b1 b2 b3 c0 c1 c2 c3 w' := by
  subst e1 e2 e3
  have s1 : ∀ (w : World) (o : Obj), (w.alloc o).heap.size = w.heap.size + 1 := fun w o => World.size_alloc w o
  refine ⟨Box.below (w := ((W.alloc _).alloc _).alloc _) ?_ hb (by simp [s1]; omega), Box.below (w := ((W.alloc _).alloc _).alloc _) ?_ hb (by simp [s1]), Box.below (w := ((W.alloc _).alloc _).alloc _) ?_ hb (by simp [s1]), ?_⟩
  · unfold Box
    rw [Below.heap_alloc _ _ _ (by simp [s1]; omega), Below.heap_alloc _ _ _ (by simp [s1])]
    exact heap_alloc_new W _
  · unfold Box
    rw [Below.heap_alloc _ _ _ (by simp [s1])]
    have := heap_alloc_new (W.alloc (.cells #[.int .u64 (a0 : Nat), .int .u64 (a1 : Nat), .int .u64 (a2 : Nat), .int .u64 (a3 : Nat)] 24)) (.cells #[.int .u64 (b0 : Nat), .int .u64 (b1 : Nat), .int .u64 (b2 : Nat), .int .u64 (b3 : Nat)] 24)
    rwa [s1] at this
  · unfold Box
    have := heap_alloc_new ((W.alloc (.cells #[.int .u64 (a0 : Nat), .int .u64 (a1 : Nat), .int .u64 (a2 : Nat), .int .u64 (a3 : Nat)] 24)).alloc (.cells #[.int .u64 (b0 : Nat), .int .u64 (b1 : Nat), .int .u64 (b2 : Nat), .int .u64 (b3 : Nat)] 24)) (.cells #[.int .u64 (c0 : Nat), .int .u64 (c1 : Nat), .int .u64 (c2 : Nat), .int .u64 (c3 : Nat)] 24)
    rwa [s1, s1] at this
  · exact ((((Below.refl _ _).alloc (Nat.le_refl _) _).alloc (by simp [s1]) _).alloc (by simp [s1]; omega) _).trans (hb.mono (by simp [s1]; omega))
theorem Three.cells {W w : World} {a0 a1 a2 a3 b0 b1 b2 b3 c0 c1 c2 c3 : Nat} (h : Three W a0 a1 a2 a3 b0 b1 b2 b3 c0 c1 c2 c3 w) :
    (w.cell? ⟨W.heap.size, 0, none⟩ = some (.int .u64 a0) ∧ w.cell? ⟨W.heap.size, 1, none⟩ = some (.int .u64 a1) ∧ w.cell? ⟨W.heap.size, 2, none⟩ = some (.int .u64 a2) ∧ w.cell? ⟨W.heap.size, 3, none⟩ = some (.int .u64 a3)) ∧
    (w.cell? ⟨W.heap.size + 1, 0, none⟩ = some (.int .u64 b0) ∧ w.cell? ⟨W.heap.size + 1, 1, none⟩ = some (.int .u64 b1) ∧ w.cell? ⟨W.heap.size + 1, 2, none⟩ = some (.int .u64 b2) ∧ w.cell? ⟨W.heap.size + 1, 3, none⟩ = some (.int .u64 b3)) ∧
    (w.cell? ⟨W.heap.size + 1 + 1, 0, none⟩ = some (.int .u64 c0) ∧ w.cell? ⟨W.heap.size + 1 + 1, 1, none⟩ = some (.int .u64 c1) ∧ w.cell? ⟨W.heap.size + 1 + 1, 2, none⟩ = some (.int .u64 c2) ∧ w.cell? ⟨W.heap.size + 1 + 1, 3, none⟩ = some (.int .u64 c3)) := ⟨h.1.cells, h.2.1.cells, h.2.2.1.cells⟩

theorem eitherZ (a0 a1 a2 a3 : Nat) (w : World) (h : Hid (Ok a0 a1 a2 a3)) :
    Calls Tryd.prog 22 #[.agg #[.int .u64 (a0 : Nat), .int .u64 (a1 : Nat), .int .u64 (a2 : Nat), .int .u64 (a3 : Nat)], .agg #[.int .u64 0, .int .u64 0, .int .u64 0, .int .u64 0]] w fun e w' => e = .returned (.agg #[.int .u64 (a0 : Nat), .int .u64 (a1 : Nat), .int .u64 (a2 : Nat), .int .u64 (a3 : Nat)]) ∧ Below w.heap.size w w' :=
  eitherR a0 a1 a2 a3 0 0 0 0 a0 a1 a2 a3 w h ok0 ⟨Nat.or_zero _, Nat.or_zero _, Nat.or_zero _, Nat.or_zero _⟩
theorem Three.all {w w' : World} {a0 a1 a2 a3 b0 b1 b2 b3 c0 c1 c2 c3 : Nat} (h : Three w a0 a1 a2 a3 b0 b1 b2 b3 c0 c1 c2 c3 w') : Three w a0 a1 a2 a3 b0 b1 b2 b3 c0 c1 c2 c3 w' ∧ w'.cell? ⟨w.heap.size, 0, none⟩ = some (.int .u64 a0) ∧ w'.cell? ⟨w.heap.size, 1, none⟩ = some (.int .u64 a1) ∧ w'.cell? ⟨w.heap.size, 2, none⟩ = some (.int .u64 a2) ∧ w'.cell? ⟨w.heap.size, 3, none⟩ = some (.int .u64 a3) ∧ w'.cell? ⟨w.heap.size + 1, 0, none⟩ = some (.int .u64 b0) ∧ w'.cell? ⟨w.heap.size + 1, 1, none⟩ = some (.int .u64 b1) ∧ w'.cell? ⟨w.heap.size + 1, 2, none⟩ = some (.int .u64 b2) ∧ w'.cell? ⟨w.heap.size + 1, 3, none⟩ = some (.int .u64 b3) ∧ w'.cell? ⟨w.heap.size + 1 + 1, 0, none⟩ = some (.int .u64 c0) ∧ w'.cell? ⟨w.heap.size + 1 + 1, 1, none⟩ = some (.int .u64 c1) ∧ w'.cell? ⟨w.heap.size + 1 + 1, 2, none⟩ = some (.int .u64 c2) ∧ w'.cell? ⟨w.heap.size + 1 + 1, 3, none⟩ = some (.int .u64 c3) :=
  ⟨h, h.1.cells.1, h.1.cells.2.1, h.1.cells.2.2.1, h.1.cells.2.2.2, h.2.1.cells.1, h.2.1.cells.2.1, h.2.1.cells.2.2.1, h.2.1.cells.2.2.2, h.2.2.1.cells.1, h.2.2.1.cells.2.1, h.2.2.1.cells.2.2.1, h.2.2.1.cells.2.2.2⟩
theorem Three.drew {w w' : World} {a0 a1 a2 a3 b0 b1 b2 b3 c0 c1 c2 c3 : Nat} (h : Three w a0 a1 a2 a3 b0 b1 b2 b3 c0 c1 c2 c3 w') : Three w a0 a1 a2 a3 b0 b1 b2 b3 c0 c1 c2 c3 w'.drew := ⟨h.1, h.2.1, h.2.2.1, h.2.2.2.drew⟩

set_option maxHeartbeats 8000000 in
set_option maxRecDepth 100000 in
theorem ring_core (a0 a1 a2 a3 b0 b1 b2 b3 c0 c1 c2 c3 x0 x1 x2 x3 o0 o1 o2 o3 s0 s1 s2 s3 u0 u1 u2 u3 t0 t1 t2 t3 p0 p1 p2 p3 v0 v1 v2 v3 z0 z1 z2 z3 : Nat) (w : World) (HT : Hid (Tab w)) (Oka : Hid (Ok a0 a1 a2 a3)) (Okb : Hid (Ok b0 b1 b2 b3)) (Okc : Hid (Ok c0 c1 c2 c3)) (Okx : Hid (Ok x0 x1 x2 x3)) (Oko : Hid (Ok o0 o1 o2 o3)) (Oks : Hid (Ok s0 s1 s2 s3)) (Okt : Hid (Ok t0 t1 t2 t3)) (Okp : Hid (Ok p0 p1 p2 p3)) (Okz : Hid (Ok z0 z1 z2 z3)) (Hboth_ab : Hid (a0 &&& b0 = x0 ∧ a1 &&& b1 = x1 ∧ a2 &&& b2 = x2 ∧ a3 &&& b3 = x3)) (Hboth_ba : Hid (b0 &&& a0 = x0 ∧ b1 &&& a1 = x1 ∧ b2 &&& a2 = x2 ∧ b3 &&& a3 = x3)) (Heither_ab : Hid (a0 ||| b0 = o0 ∧ a1 ||| b1 = o1 ∧ a2 ||| b2 = o2 ∧ a3 ||| b3 = o3)) (Heither_ba : Hid (b0 ||| a0 = o0 ∧ b1 ||| a1 = o1 ∧ b2 ||| a2 = o2 ∧ b3 ||| a3 = o3)) (Heither_bc : Hid (b0 ||| c0 = s0 ∧ b1 ||| c1 = s1 ∧ b2 ||| c2 = s2 ∧ b3 ||| c3 = s3)) (Hboth_as : Hid (a0 &&& s0 = u0 ∧ a1 &&& s1 = u1 ∧ a2 &&& s2 = u2 ∧ a3 &&& s3 = u3)) (Hboth_ac : Hid (a0 &&& c0 = t0 ∧ a1 &&& c1 = t1 ∧ a2 &&& c2 = t2 ∧ a3 &&& c3 = t3)) (Heither_xt : Hid (x0 ||| t0 = u0 ∧ x1 ||| t1 = u1 ∧ x2 ||| t2 = u2 ∧ x3 ||| t3 = u3)) (Hboth_bc : Hid (b0 &&& c0 = p0 ∧ b1 &&& c1 = p1 ∧ b2 &&& c2 = p2 ∧ b3 &&& c3 = p3)) (Heither_ap : Hid (a0 ||| p0 = v0 ∧ a1 ||| p1 = v1 ∧ a2 ||| p2 = v2 ∧ a3 ||| p3 = v3)) (Heither_ac : Hid (a0 ||| c0 = z0 ∧ a1 ||| c1 = z1 ∧ a2 ||| c2 = z2 ∧ a3 ||| c3 = z3)) (Hboth_oz : Hid (o0 &&& z0 = v0 ∧ o1 &&& z1 = v1 ∧ o2 &&& z2 = v2 ∧ o3 &&& z3 = v3)) (Hboth_ao : Hid (a0 &&& o0 = a0 ∧ a1 &&& o1 = a1 ∧ a2 &&& o2 = a2 ∧ a3 &&& o3 = a3)) (Heither_ax : Hid (a0 ||| x0 = a0 ∧ a1 ||| x1 = a1 ∧ a2 ||| x2 = a2 ∧ a3 ||| x3 = a3)) :
    Calls Tryd.prog 6 #[.agg #[.int .u64 (a0 : Nat), .int .u64 (a1 : Nat), .int .u64 (a2 : Nat), .int .u64 (a3 : Nat)], .agg #[.int .u64 (b0 : Nat), .int .u64 (b1 : Nat), .int .u64 (b2 : Nat), .int .u64 (b3 : Nat)], .agg #[.int .u64 (c0 : Nat), .int .u64 (c1 : Nat), .int .u64 (c2 : Nat), .int .u64 (c3 : Nat)]] w fun e w' => e = .returned (.bool true) ∧ Below w.heap.size w w' := by
  have heq : ∀ (x0 x1 x2 x3 y0 y1 y2 y3 : Int) (w : World), (Op.equalIn 10000 24 (.agg #[.int .u64 x0, .int .u64 x1, .int .u64 x2, .int .u64 x3]) (.agg #[.int .u64 y0, .int .u64 y1, .int .u64 y2, .int .u64 y3])).run Tryd.prog w = .ok (x0 == y0 && (x1 == y1 && (x2 == y2 && x3 == y3))) w := eq_bits
  go_enter Tryd.func6, Tryd.ntmps6
  go_wp2_with fail
  refine (alive_any _ (HT.out.below ((((Below.refl _ _).alloc (Nat.le_refl _) _).alloc (by simp) _).alloc (by simp; omega) _))).mono ?_
  rintro e w0 ⟨rfl, hb⟩
  have T0 := (three_start w w0 a0 a1 a2 a3 b0 b1 b2 b3 c0 c1 c2 c3 _ _ _ rfl rfl rfl hb).drew
  clear hb
  go_wp2_with fail
  simp only [List.append]
  go_region_held3 (fun w' => Three w a0 a1 a2 a3 b0 b1 b2 b3 c0 c1 c2 c3 w' ∧ w'.cell? ⟨w.heap.size, 0, none⟩ = some (.int .u64 a0) ∧ w'.cell? ⟨w.heap.size, 1, none⟩ = some (.int .u64 a1) ∧ w'.cell? ⟨w.heap.size, 2, none⟩ = some (.int .u64 a2) ∧ w'.cell? ⟨w.heap.size, 3, none⟩ = some (.int .u64 a3) ∧ w'.cell? ⟨w.heap.size + 1, 0, none⟩ = some (.int .u64 b0) ∧ w'.cell? ⟨w.heap.size + 1, 1, none⟩ = some (.int .u64 b1) ∧ w'.cell? ⟨w.heap.size + 1, 2, none⟩ = some (.int .u64 b2) ∧ w'.cell? ⟨w.heap.size + 1, 3, none⟩ = some (.int .u64 b3) ∧ w'.cell? ⟨w.heap.size + 1 + 1, 0, none⟩ = some (.int .u64 c0) ∧ w'.cell? ⟨w.heap.size + 1 + 1, 1, none⟩ = some (.int .u64 c1) ∧ w'.cell? ⟨w.heap.size + 1 + 1, 2, none⟩ = some (.int .u64 c2) ∧ w'.cell? ⟨w.heap.size + 1 + 1, 3, none⟩ = some (.int .u64 c3))
    (first
      | exact Three.all (by assumption)
      | exact Three.all T0)
    (first
      | (go_at_call 21; ((with_reducible refine (bothR a0 a1 a2 a3 b0 b1 b2 b3 x0 x1 x2 x3 _ Oka Okb Hboth_ab).mono ?_); rintro e w1 ⟨rfl, hb⟩; have TT := Three.step (by assumption) hb; clear hb))
      | (go_at_call 21; ((with_reducible refine (bothR b0 b1 b2 b3 a0 a1 a2 a3 x0 x1 x2 x3 _ Okb Oka Hboth_ba).mono ?_); rintro e w1 ⟨rfl, hb⟩; have TT := Three.step (by assumption) hb; clear hb))
      | (go_at_call 22; ((with_reducible refine (eitherR a0 a1 a2 a3 b0 b1 b2 b3 o0 o1 o2 o3 _ Oka Okb Heither_ab).mono ?_); rintro e w1 ⟨rfl, hb⟩; have TT := Three.step (by assumption) hb; clear hb))
      | (go_at_call 22; ((with_reducible refine (eitherR b0 b1 b2 b3 a0 a1 a2 a3 o0 o1 o2 o3 _ Okb Oka Heither_ba).mono ?_); rintro e w1 ⟨rfl, hb⟩; have TT := Three.step (by assumption) hb; clear hb))
      | (go_at_call 22; ((with_reducible refine (eitherR b0 b1 b2 b3 c0 c1 c2 c3 s0 s1 s2 s3 _ Okb Okc Heither_bc).mono ?_); rintro e w1 ⟨rfl, hb⟩; have TT := Three.step (by assumption) hb; clear hb))
      | (go_at_call 21; ((with_reducible refine (bothR a0 a1 a2 a3 s0 s1 s2 s3 u0 u1 u2 u3 _ Oka Oks Hboth_as).mono ?_); rintro e w1 ⟨rfl, hb⟩; have TT := Three.step (by assumption) hb; clear hb))
      | (go_at_call 21; ((with_reducible refine (bothR a0 a1 a2 a3 c0 c1 c2 c3 t0 t1 t2 t3 _ Oka Okc Hboth_ac).mono ?_); rintro e w1 ⟨rfl, hb⟩; have TT := Three.step (by assumption) hb; clear hb))
      | (go_at_call 22; ((with_reducible refine (eitherR x0 x1 x2 x3 t0 t1 t2 t3 u0 u1 u2 u3 _ Okx Okt Heither_xt).mono ?_); rintro e w1 ⟨rfl, hb⟩; have TT := Three.step (by assumption) hb; clear hb))
      | (go_at_call 21; ((with_reducible refine (bothR b0 b1 b2 b3 c0 c1 c2 c3 p0 p1 p2 p3 _ Okb Okc Hboth_bc).mono ?_); rintro e w1 ⟨rfl, hb⟩; have TT := Three.step (by assumption) hb; clear hb))
      | (go_at_call 22; ((with_reducible refine (eitherR a0 a1 a2 a3 p0 p1 p2 p3 v0 v1 v2 v3 _ Oka Okp Heither_ap).mono ?_); rintro e w1 ⟨rfl, hb⟩; have TT := Three.step (by assumption) hb; clear hb))
      | (go_at_call 22; ((with_reducible refine (eitherR a0 a1 a2 a3 c0 c1 c2 c3 z0 z1 z2 z3 _ Oka Okc Heither_ac).mono ?_); rintro e w1 ⟨rfl, hb⟩; have TT := Three.step (by assumption) hb; clear hb))
      | (go_at_call 21; ((with_reducible refine (bothR o0 o1 o2 o3 z0 z1 z2 z3 v0 v1 v2 v3 _ Oko Okz Hboth_oz).mono ?_); rintro e w1 ⟨rfl, hb⟩; have TT := Three.step (by assumption) hb; clear hb))
      | (go_at_call 21; ((with_reducible refine (bothR a0 a1 a2 a3 o0 o1 o2 o3 a0 a1 a2 a3 _ Oka Oko Hboth_ao).mono ?_); rintro e w1 ⟨rfl, hb⟩; have TT := Three.step (by assumption) hb; clear hb))
      | (go_at_call 22; ((with_reducible refine (eitherR a0 a1 a2 a3 x0 x1 x2 x3 a0 a1 a2 a3 _ Oka Okx Heither_ax).mono ?_); rintro e w1 ⟨rfl, hb⟩; have TT := Three.step (by assumption) hb; clear hb))
      | (go_at_call 22; ((with_reducible refine (eitherZ a0 a1 a2 a3 _ Oka).mono ?_); rintro e w1 ⟨rfl, hb⟩; have TT := Three.step (by assumption) hb; clear hb)))
  all_goals go_wp2_with fail
  all_goals go_ret
  all_goals exact ⟨rfl, (by assumption : Three w a0 a1 a2 a3 b0 b1 b2 b3 c0 c1 c2 c3 _).2.2.2⟩

theorem dist1 (a b c : Nat) : (a &&& b) ||| (a &&& c) = a &&& (b ||| c) := by
  apply Nat.eq_of_testBit_eq
  intro i
  simp only [Nat.testBit_or, Nat.testBit_and]
  cases a.testBit i <;> simp
theorem dist2 (a b c : Nat) : (a ||| b) &&& (a ||| c) = a ||| (b &&& c) := by
  apply Nat.eq_of_testBit_eq
  intro i
  simp only [Nat.testBit_or, Nat.testBit_and]
  cases a.testBit i <;> simp
theorem swal1 (a b : Nat) : a &&& (a ||| b) = a := by
  apply Nat.eq_of_testBit_eq
  intro i
  simp only [Nat.testBit_or, Nat.testBit_and]
  cases a.testBit i <;> simp
theorem swal2 (a b : Nat) : a ||| (a &&& b) = a := by
  apply Nat.eq_of_testBit_eq
  intro i
  simp only [Nat.testBit_or, Nat.testBit_and]
  cases a.testBit i <;> simp

theorem ring_any (a0 a1 a2 a3 b0 b1 b2 b3 c0 c1 c2 c3 : Nat) (w : World) (ha : Ok a0 a1 a2 a3) (hb : Ok b0 b1 b2 b3) (hc : Ok c0 c1 c2 c3) (hT : Tab w) :
    Calls Tryd.prog 6 #[.agg #[.int .u64 (a0 : Nat), .int .u64 (a1 : Nat), .int .u64 (a2 : Nat), .int .u64 (a3 : Nat)], .agg #[.int .u64 (b0 : Nat), .int .u64 (b1 : Nat), .int .u64 (b2 : Nat), .int .u64 (b3 : Nat)], .agg #[.int .u64 (c0 : Nat), .int .u64 (c1 : Nat), .int .u64 (c2 : Nat), .int .u64 (c3 : Nat)]] w fun e w' => e = .returned (.bool true) ∧ Below w.heap.size w w' :=
  ring_core a0 a1 a2 a3 b0 b1 b2 b3 c0 c1 c2 c3 (a0 &&& b0) (a1 &&& b1) (a2 &&& b2) (a3 &&& b3) (a0 ||| b0) (a1 ||| b1) (a2 ||| b2) (a3 ||| b3) (b0 ||| c0) (b1 ||| c1) (b2 ||| c2) (b3 ||| c3) (a0 &&& (b0 ||| c0)) (a1 &&& (b1 ||| c1)) (a2 &&& (b2 ||| c2)) (a3 &&& (b3 ||| c3)) (a0 &&& c0) (a1 &&& c1) (a2 &&& c2) (a3 &&& c3) (b0 &&& c0) (b1 &&& c1) (b2 &&& c2) (b3 &&& c3) (a0 ||| (b0 &&& c0)) (a1 ||| (b1 &&& c1)) (a2 ||| (b2 &&& c2)) (a3 ||| (b3 &&& c3)) (a0 ||| c0) (a1 ||| c1) (a2 ||| c2) (a3 ||| c3) w hT (ha) (hb) (hc) (ha.both) (ha.either hb) (hb.either hc) (ha.both) (hb.both) (ha.either hc)
    ⟨rfl, rfl, rfl, rfl⟩ ⟨Nat.and_comm _ _, Nat.and_comm _ _, Nat.and_comm _ _, Nat.and_comm _ _⟩ ⟨rfl, rfl, rfl, rfl⟩ ⟨Nat.or_comm _ _, Nat.or_comm _ _, Nat.or_comm _ _, Nat.or_comm _ _⟩ ⟨rfl, rfl, rfl, rfl⟩ ⟨rfl, rfl, rfl, rfl⟩ ⟨rfl, rfl, rfl, rfl⟩ ⟨(dist1 _ _ _), (dist1 _ _ _), (dist1 _ _ _), (dist1 _ _ _)⟩ ⟨rfl, rfl, rfl, rfl⟩ ⟨rfl, rfl, rfl, rfl⟩ ⟨rfl, rfl, rfl, rfl⟩ ⟨(dist2 _ _ _), (dist2 _ _ _), (dist2 _ _ _), (dist2 _ _ _)⟩ ⟨(swal1 _ _), (swal1 _ _), (swal1 _ _), (swal1 _ _)⟩ ⟨(swal2 _ _), (swal2 _ _), (swal2 _ _), (swal2 _ _)⟩
end Go.Proofs.YtcpoakikeahjeaaDoor
