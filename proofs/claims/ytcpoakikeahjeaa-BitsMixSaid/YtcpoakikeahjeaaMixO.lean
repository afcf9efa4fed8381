/- The walk of corebellref.AMix with 'or'. -/
import Derived.Test.YtcpoakikeahjeaaMixParts
namespace Go.Proofs.Ytcpoakikeahjeaa
open Go.RowKit

theorem mix_or_fn (x y : Bool) (w : World) : Calls Try.prog 8 #[.bool x, .bool y] w fun e w' => e = .returned (.bool (x || y)) ∧ w = w' := by
  cases x
  · go_enter Try.func8, Try.ntmps8
    go_wp2_with fail
    go_ret
    exact ⟨rfl, rfl⟩
  · go_enter Try.func8, Try.ntmps8
    go_wp2_with fail
    go_ret
    exact ⟨rfl, rfl⟩

set_option linter.unusedSimpArgs false in
set_option linter.unusedVariables false in
set_option maxHeartbeats 32000000 in
set_option maxRecDepth 100000 in
theorem mix_or (a0 a1 a2 a3 b0 b1 b2 b3 : Nat) (Z R1 R2 : Array Value) (hz : ∀ w, (zeroValue 29).run Try.prog w = .ok (.agg Z) w) (hZ : Hid (Z.size = 256)) (w : World) (Oa : Hid (Ok a0 a1 a2 a3)) (Ob : Hid (Ok b0 b1 b2 b3))
    (H1 : Hid (boolsOf (mem a0 a1 a2 a3) 256 = R1)) (H2 : Hid (boolsOf (mem b0 b1 b2 b3) 256 = R2))
    (S1 : Hid ((Try.prog.info? 29).map (·.size) = some R1.size)) (S2 : Hid ((Try.prog.info? 29).map (·.size) = some R2.size)) (E1 : Hid (Z.size = R1.size)) (E2 : Hid (Z.size = R2.size)) (L1 : Hid (R1.all (·.oneCell') = true)) (L2 : Hid (R2.all (·.oneCell') = true)) :
    Calls Try.prog 5 #[.agg #[.int .u64 a0, .int .u64 a1, .int .u64 a2, .int .u64 a3], .agg #[.int .u64 b0, .int .u64 b1, .int .u64 b2, .int .u64 b3], .func (.func 8) #[] #[]] w fun e w' => e = .returned (.agg #[.int .u64 (wof (fun m => mem a0 a1 a2 a3 m || mem b0 b1 b2 b3 m) 0 : Nat), .int .u64 (wof (fun m => mem a0 a1 a2 a3 m || mem b0 b1 b2 b3 m) 1 : Nat), .int .u64 (wof (fun m => mem a0 a1 a2 a3 m || mem b0 b1 b2 b3 m) 2 : Nat), .int .u64 (wof (fun m => mem a0 a1 a2 a3 m || mem b0 b1 b2 b3 m) 3 : Nat)]) ∧ Below w.heap.size w w' := by
  obtain ⟨W0, hW0, hsz, hbel, ha, hb, hres, hrow⟩ := mix_base w a0 a1 a2 a3 b0 b1 b2 b3 Z
  have HA := Lib.hid ha
  have HB := Lib.hid hb
  have HRES := Lib.hid hres
  have HROW := Lib.hid hrow
  have HBEL := Lib.hid hbel
  have HSZ := Lib.hid hsz
  clear ha hb hres hrow hbel hsz
  go_enter Try.func5, Try.ntmps5
  go_upto_region 2 with fail
  rw [← hW0]
  clear hW0
  go_cut [8, 9] (fun s8 s9 wx => ∃ g h : Nat, s8 = .pointer (some ⟨g, 0, none⟩) ∧ s9 = .pointer (some ⟨h, 0, none⟩) ∧ Kp W0 (w.heap.size + 4) wx ∧ At (w.heap.size + 4) g R1 wx ∧ At (w.heap.size + 4) h R2 wx)
  case first =>
    have KB0 : Kp W0 (w.heap.size + 4) W0.drew := ⟨(Below.refl _ _).drew, Nat.le_of_eq HSZ.out.symm⟩
    refine wp_region_noPanic ?_
    refine wp_region_held_drew (S := fun w' => Kp W0 (w.heap.size + 4) w' ∧ w'.cell? ⟨w.heap.size, 0, none⟩ = some (.int .u64 a0) ∧ w'.cell? ⟨w.heap.size, 1, none⟩ = some (.int .u64 a1) ∧ w'.cell? ⟨w.heap.size, 2, none⟩ = some (.int .u64 a2) ∧ w'.cell? ⟨w.heap.size, 3, none⟩ = some (.int .u64 a3) ∧ w'.cell? ⟨w.heap.size + 1, 0, none⟩ = some (.int .u64 b0) ∧ w'.cell? ⟨w.heap.size + 1, 1, none⟩ = some (.int .u64 b1) ∧ w'.cell? ⟨w.heap.size + 1, 2, none⟩ = some (.int .u64 b2) ∧ w'.cell? ⟨w.heap.size + 1, 3, none⟩ = some (.int .u64 b3)) (by kernel_rfl) (s_of HA.out HB.out KB0) (fun hHeld => ?_)
    generalize W0.drew = W1 at KB0 hHeld ⊢
    refine wpAnyH_take (i := 0) (v := ?_) rfl (by kernel_rfl) (by kernel_rfl) (by kernel_rfl) (fun _ _ _ h => h) (Or.inl ⟨by rfl, ?_⟩) (by assumption) ?_
    rotate_left
    · (intro w hSw; (try dsimp only at hSw); go_simp; try with_reducible rfl)
    simp only [List.getElem_toArray, List.getElem_cons_zero, List.getElem_cons_succ, Act.put, List.setIfInBounds_toArray, List.set_cons_zero, List.set_cons_succ]
    refine wpAnyH_take (i := 2) (v := ?_) rfl (by kernel_rfl) (by kernel_rfl) (by kernel_rfl) (fun _ _ _ h => h) (Or.inl ⟨by rfl, ?_⟩) (by assumption) ?_
    rotate_left
    · (intro w hSw; (try dsimp only at hSw); go_simp; try with_reducible rfl)
    simp only [List.getElem_toArray, List.getElem_cons_zero, List.getElem_cons_succ, Act.put, List.setIfInBounds_toArray, List.set_cons_zero, List.set_cons_succ]
    refine wpAnyH_ready (rs := [1, 4, 5]) (by kernel_rfl) (by simp) ?_
    refine AllReadyH.cons rfl (fun K hK => ?_) ?_
    · go_simp
      refine (row_R a0 a1 a2 a3 R1 _ Oa H1).mono ?_
      rintro e v2 ⟨rfl, hb3⟩
      go_wp2_with fail
      have KB1 := Kp.call KB0 hb3
      clear hb3
      refine hK.out _ _ (s_of HA.out HB.out KB1) (fun hHeld => ?_)
      refine wpAnyH_ready (rs := [3, 4, 5]) (by kernel_rfl) (by simp) ?_
      refine AllReadyH.cons rfl (fun K hK => ?_) ?_
      · go_simp
        refine (row_R b0 b1 b2 b3 R2 _ Ob H2).mono ?_
        rintro e v5 ⟨rfl, hb6⟩
        go_wp2_with fail
        have KB4 := Kp.call KB1 hb6
        clear hb6
        refine hK.out _ _ (s_of HA.out HB.out KB4) (fun hHeld => ?_)
        refine wpAnyH_ready (rs := [4, 5]) (by kernel_rfl) (by simp) ?_
        refine AllReadyH.cons rfl (fun K hK => ?_) ?_
        · go_simp
          have KB7 := Kp.alloc KB4 (.cells Z 29)
          have G8 := At.new KB4 Z
          try simp only [World.size_alloc] at G8
          refine hK.out _ _ (s_of HA.out HB.out KB7) (fun hHeld => ?_)
          refine wpAnyH_ready (rs := [5]) (by kernel_rfl) (by simp) ?_
          refine AllReadyH.cons rfl (fun K hK => ?_) ?_
          · go_simp
            have KB9 := Kp.alloc KB7 (.cells Z 29)
            have G10 := At.new KB7 Z
            try simp only [World.size_alloc] at G10
            have NE12 := Nat.ne_of_lt (At.lt G8)
            try simp only [World.size_alloc] at NE12
            have G11 := At.alloc G8 (.cells Z 29)
            refine hK.out _ _ (s_of HA.out HB.out KB9) (fun hHeld => ?_)
            refine wpAnyH_ready (rs := [6]) (by kernel_rfl) (by simp) ?_
            refine AllReadyH.cons rfl (fun K hK => ?_) ?_
            · rw [if_pos (by rfl)]
              refine wp_store_row 29 _ _ rfl _ R1 rfl rfl 29 Z G11.2 S1.out E1.out L1.out ?_
              simp only [List.getElem_toArray, List.getElem_cons_zero, List.getElem_cons_succ, Act.put, List.setIfInBounds_toArray, List.set_cons_zero, List.set_cons_succ]
              have KB13 := Kp.set KB9 G11.1 R1
              have G14 := At.same G11 R1
              have G15 := At.other G10 NE12.symm R1
              refine hK.out _ _ (s_of HA.out HB.out KB13) (fun hHeld => ?_)
              refine wpAnyH_ready (rs := [7]) (by kernel_rfl) (by simp) ?_
              refine AllReadyH.cons rfl (fun K hK => ?_) ?_
              · rw [if_pos (by rfl)]
                refine wp_store_row 29 _ _ rfl _ R2 rfl rfl 29 Z G15.2 S2.out E2.out L2.out ?_
                simp only [List.getElem_toArray, List.getElem_cons_zero, List.getElem_cons_succ, Act.put, List.setIfInBounds_toArray, List.set_cons_zero, List.set_cons_succ]
                have KB16 := Kp.set KB13 G15.1 R2
                have G17 := At.same G15 R2
                have G18 := At.other G14 NE12 R2
                refine hK.out _ _ (s_of HA.out HB.out KB16) (fun hHeld => ?_)
                refine wpAnyH_done (by kernel_rfl) ?_ _
                refine NoPanic.normal ?_
                go_wp2_with fail
                go_meet
                exact ⟨_, _, rfl, rfl, KB16, G18, G17⟩
              exact AllReadyH.nil
            exact AllReadyH.nil
          exact AllReadyH.nil
        refine AllReadyH.cons rfl (fun K hK => ?_) ?_
        · go_simp
          have KB19 := Kp.alloc KB4 (.cells Z 29)
          have G20 := At.new KB4 Z
          try simp only [World.size_alloc] at G20
          refine hK.out _ _ (s_of HA.out HB.out KB19) (fun hHeld => ?_)
          refine wpAnyH_ready (rs := [4]) (by kernel_rfl) (by simp) ?_
          refine AllReadyH.cons rfl (fun K hK => ?_) ?_
          · go_simp
            have KB21 := Kp.alloc KB19 (.cells Z 29)
            have G22 := At.new KB19 Z
            try simp only [World.size_alloc] at G22
            have NE24 := (Nat.ne_of_lt (At.lt G20)).symm
            try simp only [World.size_alloc] at NE24
            have G23 := At.alloc G20 (.cells Z 29)
            refine hK.out _ _ (s_of HA.out HB.out KB21) (fun hHeld => ?_)
            refine wpAnyH_ready (rs := [6]) (by kernel_rfl) (by simp) ?_
            refine AllReadyH.cons rfl (fun K hK => ?_) ?_
            · rw [if_pos (by rfl)]
              refine wp_store_row 29 _ _ rfl _ R1 rfl rfl 29 Z G22.2 S1.out E1.out L1.out ?_
              simp only [List.getElem_toArray, List.getElem_cons_zero, List.getElem_cons_succ, Act.put, List.setIfInBounds_toArray, List.set_cons_zero, List.set_cons_succ]
              have KB25 := Kp.set KB21 G22.1 R1
              have G26 := At.same G22 R1
              have G27 := At.other G23 NE24.symm R1
              refine hK.out _ _ (s_of HA.out HB.out KB25) (fun hHeld => ?_)
              refine wpAnyH_ready (rs := [7]) (by kernel_rfl) (by simp) ?_
              refine AllReadyH.cons rfl (fun K hK => ?_) ?_
              · rw [if_pos (by rfl)]
                refine wp_store_row 29 _ _ rfl _ R2 rfl rfl 29 Z G27.2 S2.out E2.out L2.out ?_
                simp only [List.getElem_toArray, List.getElem_cons_zero, List.getElem_cons_succ, Act.put, List.setIfInBounds_toArray, List.set_cons_zero, List.set_cons_succ]
                have KB28 := Kp.set KB25 G27.1 R2
                have G29 := At.same G27 R2
                have G30 := At.other G26 NE24 R2
                refine hK.out _ _ (s_of HA.out HB.out KB28) (fun hHeld => ?_)
                refine wpAnyH_done (by kernel_rfl) ?_ _
                refine NoPanic.normal ?_
                go_wp2_with fail
                go_meet
                exact ⟨_, _, rfl, rfl, KB28, G30, G29⟩
              exact AllReadyH.nil
            exact AllReadyH.nil
          exact AllReadyH.nil
        exact AllReadyH.nil
      refine AllReadyH.cons rfl (fun K hK => ?_) ?_
      · go_simp
        have KB31 := Kp.alloc KB1 (.cells Z 29)
        have G32 := At.new KB1 Z
        try simp only [World.size_alloc] at G32
        refine hK.out _ _ (s_of HA.out HB.out KB31) (fun hHeld => ?_)
        refine wpAnyH_ready (rs := [3, 5]) (by kernel_rfl) (by simp) ?_
        refine AllReadyH.cons rfl (fun K hK => ?_) ?_
        · go_simp
          refine (row_R b0 b1 b2 b3 R2 _ Ob H2).mono ?_
          rintro e v34 ⟨rfl, hb35⟩
          go_wp2_with fail
          have KB33 := Kp.call KB31 hb35
          have G36 := At.call G32 hb35
          clear hb35
          refine hK.out _ _ (s_of HA.out HB.out KB33) (fun hHeld => ?_)
          refine wpAnyH_ready (rs := [5]) (by kernel_rfl) (by simp) ?_
          refine AllReadyH.cons rfl (fun K hK => ?_) ?_
          · go_simp
            have KB37 := Kp.alloc KB33 (.cells Z 29)
            have G38 := At.new KB33 Z
            try simp only [World.size_alloc] at G38
            have NE40 := Nat.ne_of_lt (At.lt G36)
            try simp only [World.size_alloc] at NE40
            have G39 := At.alloc G36 (.cells Z 29)
            refine hK.out _ _ (s_of HA.out HB.out KB37) (fun hHeld => ?_)
            refine wpAnyH_ready (rs := [6]) (by kernel_rfl) (by simp) ?_
            refine AllReadyH.cons rfl (fun K hK => ?_) ?_
            · rw [if_pos (by rfl)]
              refine wp_store_row 29 _ _ rfl _ R1 rfl rfl 29 Z G39.2 S1.out E1.out L1.out ?_
              simp only [List.getElem_toArray, List.getElem_cons_zero, List.getElem_cons_succ, Act.put, List.setIfInBounds_toArray, List.set_cons_zero, List.set_cons_succ]
              have KB41 := Kp.set KB37 G39.1 R1
              have G42 := At.same G39 R1
              have G43 := At.other G38 NE40.symm R1
              refine hK.out _ _ (s_of HA.out HB.out KB41) (fun hHeld => ?_)
              refine wpAnyH_ready (rs := [7]) (by kernel_rfl) (by simp) ?_
              refine AllReadyH.cons rfl (fun K hK => ?_) ?_
              · rw [if_pos (by rfl)]
                refine wp_store_row 29 _ _ rfl _ R2 rfl rfl 29 Z G43.2 S2.out E2.out L2.out ?_
                simp only [List.getElem_toArray, List.getElem_cons_zero, List.getElem_cons_succ, Act.put, List.setIfInBounds_toArray, List.set_cons_zero, List.set_cons_succ]
                have KB44 := Kp.set KB41 G43.1 R2
                have G45 := At.same G43 R2
                have G46 := At.other G42 NE40 R2
                refine hK.out _ _ (s_of HA.out HB.out KB44) (fun hHeld => ?_)
                refine wpAnyH_done (by kernel_rfl) ?_ _
                refine NoPanic.normal ?_
                go_wp2_with fail
                go_meet
                exact ⟨_, _, rfl, rfl, KB44, G46, G45⟩
              exact AllReadyH.nil
            exact AllReadyH.nil
          exact AllReadyH.nil
        refine AllReadyH.cons rfl (fun K hK => ?_) ?_
        · go_simp
          have KB47 := Kp.alloc KB31 (.cells Z 29)
          have G48 := At.new KB31 Z
          try simp only [World.size_alloc] at G48
          have NE50 := Nat.ne_of_lt (At.lt G32)
          try simp only [World.size_alloc] at NE50
          have G49 := At.alloc G32 (.cells Z 29)
          refine hK.out _ _ (s_of HA.out HB.out KB47) (fun hHeld => ?_)
          refine wpAnyH_ready (rs := [3]) (by kernel_rfl) (by simp) ?_
          refine AllReadyH.cons rfl (fun K hK => ?_) ?_
          · go_simp
            refine (row_R b0 b1 b2 b3 R2 _ Ob H2).mono ?_
            rintro e v52 ⟨rfl, hb53⟩
            go_wp2_with fail
            have KB51 := Kp.call KB47 hb53
            have G54 := At.call G49 hb53
            have G55 := At.call G48 hb53
            clear hb53
            refine hK.out _ _ (s_of HA.out HB.out KB51) (fun hHeld => ?_)
            refine wpAnyH_ready (rs := [6]) (by kernel_rfl) (by simp) ?_
            refine AllReadyH.cons rfl (fun K hK => ?_) ?_
            · rw [if_pos (by rfl)]
              refine wp_store_row 29 _ _ rfl _ R1 rfl rfl 29 Z G54.2 S1.out E1.out L1.out ?_
              simp only [List.getElem_toArray, List.getElem_cons_zero, List.getElem_cons_succ, Act.put, List.setIfInBounds_toArray, List.set_cons_zero, List.set_cons_succ]
              have KB56 := Kp.set KB51 G54.1 R1
              have G57 := At.same G54 R1
              have G58 := At.other G55 NE50.symm R1
              refine hK.out _ _ (s_of HA.out HB.out KB56) (fun hHeld => ?_)
              refine wpAnyH_ready (rs := [7]) (by kernel_rfl) (by simp) ?_
              refine AllReadyH.cons rfl (fun K hK => ?_) ?_
              · rw [if_pos (by rfl)]
                refine wp_store_row 29 _ _ rfl _ R2 rfl rfl 29 Z G58.2 S2.out E2.out L2.out ?_
                simp only [List.getElem_toArray, List.getElem_cons_zero, List.getElem_cons_succ, Act.put, List.setIfInBounds_toArray, List.set_cons_zero, List.set_cons_succ]
                have KB59 := Kp.set KB56 G58.1 R2
                have G60 := At.same G58 R2
                have G61 := At.other G57 NE50 R2
                refine hK.out _ _ (s_of HA.out HB.out KB59) (fun hHeld => ?_)
                refine wpAnyH_done (by kernel_rfl) ?_ _
                refine NoPanic.normal ?_
                go_wp2_with fail
                go_meet
                exact ⟨_, _, rfl, rfl, KB59, G61, G60⟩
              exact AllReadyH.nil
            exact AllReadyH.nil
          exact AllReadyH.nil
        exact AllReadyH.nil
      refine AllReadyH.cons rfl (fun K hK => ?_) ?_
      · go_simp
        have KB62 := Kp.alloc KB1 (.cells Z 29)
        have G63 := At.new KB1 Z
        try simp only [World.size_alloc] at G63
        refine hK.out _ _ (s_of HA.out HB.out KB62) (fun hHeld => ?_)
        refine wpAnyH_ready (rs := [3, 4]) (by kernel_rfl) (by simp) ?_
        refine AllReadyH.cons rfl (fun K hK => ?_) ?_
        · go_simp
          refine (row_R b0 b1 b2 b3 R2 _ Ob H2).mono ?_
          rintro e v65 ⟨rfl, hb66⟩
          go_wp2_with fail
          have KB64 := Kp.call KB62 hb66
          have G67 := At.call G63 hb66
          clear hb66
          refine hK.out _ _ (s_of HA.out HB.out KB64) (fun hHeld => ?_)
          refine wpAnyH_ready (rs := [4]) (by kernel_rfl) (by simp) ?_
          refine AllReadyH.cons rfl (fun K hK => ?_) ?_
          · go_simp
            have KB68 := Kp.alloc KB64 (.cells Z 29)
            have G69 := At.new KB64 Z
            try simp only [World.size_alloc] at G69
            have NE71 := (Nat.ne_of_lt (At.lt G67)).symm
            try simp only [World.size_alloc] at NE71
            have G70 := At.alloc G67 (.cells Z 29)
            refine hK.out _ _ (s_of HA.out HB.out KB68) (fun hHeld => ?_)
            refine wpAnyH_ready (rs := [6]) (by kernel_rfl) (by simp) ?_
            refine AllReadyH.cons rfl (fun K hK => ?_) ?_
            · rw [if_pos (by rfl)]
              refine wp_store_row 29 _ _ rfl _ R1 rfl rfl 29 Z G69.2 S1.out E1.out L1.out ?_
              simp only [List.getElem_toArray, List.getElem_cons_zero, List.getElem_cons_succ, Act.put, List.setIfInBounds_toArray, List.set_cons_zero, List.set_cons_succ]
              have KB72 := Kp.set KB68 G69.1 R1
              have G73 := At.same G69 R1
              have G74 := At.other G70 NE71.symm R1
              refine hK.out _ _ (s_of HA.out HB.out KB72) (fun hHeld => ?_)
              refine wpAnyH_ready (rs := [7]) (by kernel_rfl) (by simp) ?_
              refine AllReadyH.cons rfl (fun K hK => ?_) ?_
              · rw [if_pos (by rfl)]
                refine wp_store_row 29 _ _ rfl _ R2 rfl rfl 29 Z G74.2 S2.out E2.out L2.out ?_
                simp only [List.getElem_toArray, List.getElem_cons_zero, List.getElem_cons_succ, Act.put, List.setIfInBounds_toArray, List.set_cons_zero, List.set_cons_succ]
                have KB75 := Kp.set KB72 G74.1 R2
                have G76 := At.same G74 R2
                have G77 := At.other G73 NE71 R2
                refine hK.out _ _ (s_of HA.out HB.out KB75) (fun hHeld => ?_)
                refine wpAnyH_done (by kernel_rfl) ?_ _
                refine NoPanic.normal ?_
                go_wp2_with fail
                go_meet
                exact ⟨_, _, rfl, rfl, KB75, G77, G76⟩
              exact AllReadyH.nil
            exact AllReadyH.nil
          exact AllReadyH.nil
        refine AllReadyH.cons rfl (fun K hK => ?_) ?_
        · go_simp
          have KB78 := Kp.alloc KB62 (.cells Z 29)
          have G79 := At.new KB62 Z
          try simp only [World.size_alloc] at G79
          have NE81 := (Nat.ne_of_lt (At.lt G63)).symm
          try simp only [World.size_alloc] at NE81
          have G80 := At.alloc G63 (.cells Z 29)
          refine hK.out _ _ (s_of HA.out HB.out KB78) (fun hHeld => ?_)
          refine wpAnyH_ready (rs := [3]) (by kernel_rfl) (by simp) ?_
          refine AllReadyH.cons rfl (fun K hK => ?_) ?_
          · go_simp
            refine (row_R b0 b1 b2 b3 R2 _ Ob H2).mono ?_
            rintro e v83 ⟨rfl, hb84⟩
            go_wp2_with fail
            have KB82 := Kp.call KB78 hb84
            have G85 := At.call G79 hb84
            have G86 := At.call G80 hb84
            clear hb84
            refine hK.out _ _ (s_of HA.out HB.out KB82) (fun hHeld => ?_)
            refine wpAnyH_ready (rs := [6]) (by kernel_rfl) (by simp) ?_
            refine AllReadyH.cons rfl (fun K hK => ?_) ?_
            · rw [if_pos (by rfl)]
              refine wp_store_row 29 _ _ rfl _ R1 rfl rfl 29 Z G85.2 S1.out E1.out L1.out ?_
              simp only [List.getElem_toArray, List.getElem_cons_zero, List.getElem_cons_succ, Act.put, List.setIfInBounds_toArray, List.set_cons_zero, List.set_cons_succ]
              have KB87 := Kp.set KB82 G85.1 R1
              have G88 := At.same G85 R1
              have G89 := At.other G86 NE81.symm R1
              refine hK.out _ _ (s_of HA.out HB.out KB87) (fun hHeld => ?_)
              refine wpAnyH_ready (rs := [7]) (by kernel_rfl) (by simp) ?_
              refine AllReadyH.cons rfl (fun K hK => ?_) ?_
              · rw [if_pos (by rfl)]
                refine wp_store_row 29 _ _ rfl _ R2 rfl rfl 29 Z G89.2 S2.out E2.out L2.out ?_
                simp only [List.getElem_toArray, List.getElem_cons_zero, List.getElem_cons_succ, Act.put, List.setIfInBounds_toArray, List.set_cons_zero, List.set_cons_succ]
                have KB90 := Kp.set KB87 G89.1 R2
                have G91 := At.same G89 R2
                have G92 := At.other G88 NE81 R2
                refine hK.out _ _ (s_of HA.out HB.out KB90) (fun hHeld => ?_)
                refine wpAnyH_done (by kernel_rfl) ?_ _
                refine NoPanic.normal ?_
                go_wp2_with fail
                go_meet
                exact ⟨_, _, rfl, rfl, KB90, G92, G91⟩
              exact AllReadyH.nil
            exact AllReadyH.nil
          exact AllReadyH.nil
        exact AllReadyH.nil
      exact AllReadyH.nil
    refine AllReadyH.cons rfl (fun K hK => ?_) ?_
    · go_simp
      have KB93 := Kp.alloc KB0 (.cells Z 29)
      have G94 := At.new KB0 Z
      try simp only [World.size_alloc] at G94
      refine hK.out _ _ (s_of HA.out HB.out KB93) (fun hHeld => ?_)
      refine wpAnyH_ready (rs := [1, 5]) (by kernel_rfl) (by simp) ?_
      refine AllReadyH.cons rfl (fun K hK => ?_) ?_
      · go_simp
        refine (row_R a0 a1 a2 a3 R1 _ Oa H1).mono ?_
        rintro e v96 ⟨rfl, hb97⟩
        go_wp2_with fail
        have KB95 := Kp.call KB93 hb97
        have G98 := At.call G94 hb97
        clear hb97
        refine hK.out _ _ (s_of HA.out HB.out KB95) (fun hHeld => ?_)
        refine wpAnyH_ready (rs := [3, 5]) (by kernel_rfl) (by simp) ?_
        refine AllReadyH.cons rfl (fun K hK => ?_) ?_
        · go_simp
          refine (row_R b0 b1 b2 b3 R2 _ Ob H2).mono ?_
          rintro e v100 ⟨rfl, hb101⟩
          go_wp2_with fail
          have KB99 := Kp.call KB95 hb101
          have G102 := At.call G98 hb101
          clear hb101
          refine hK.out _ _ (s_of HA.out HB.out KB99) (fun hHeld => ?_)
          refine wpAnyH_ready (rs := [5]) (by kernel_rfl) (by simp) ?_
          refine AllReadyH.cons rfl (fun K hK => ?_) ?_
          · go_simp
            have KB103 := Kp.alloc KB99 (.cells Z 29)
            have G104 := At.new KB99 Z
            try simp only [World.size_alloc] at G104
            have NE106 := Nat.ne_of_lt (At.lt G102)
            try simp only [World.size_alloc] at NE106
            have G105 := At.alloc G102 (.cells Z 29)
            refine hK.out _ _ (s_of HA.out HB.out KB103) (fun hHeld => ?_)
            refine wpAnyH_ready (rs := [6]) (by kernel_rfl) (by simp) ?_
            refine AllReadyH.cons rfl (fun K hK => ?_) ?_
            · rw [if_pos (by rfl)]
              refine wp_store_row 29 _ _ rfl _ R1 rfl rfl 29 Z G105.2 S1.out E1.out L1.out ?_
              simp only [List.getElem_toArray, List.getElem_cons_zero, List.getElem_cons_succ, Act.put, List.setIfInBounds_toArray, List.set_cons_zero, List.set_cons_succ]
              have KB107 := Kp.set KB103 G105.1 R1
              have G108 := At.same G105 R1
              have G109 := At.other G104 NE106.symm R1
              refine hK.out _ _ (s_of HA.out HB.out KB107) (fun hHeld => ?_)
              refine wpAnyH_ready (rs := [7]) (by kernel_rfl) (by simp) ?_
              refine AllReadyH.cons rfl (fun K hK => ?_) ?_
              · rw [if_pos (by rfl)]
                refine wp_store_row 29 _ _ rfl _ R2 rfl rfl 29 Z G109.2 S2.out E2.out L2.out ?_
                simp only [List.getElem_toArray, List.getElem_cons_zero, List.getElem_cons_succ, Act.put, List.setIfInBounds_toArray, List.set_cons_zero, List.set_cons_succ]
                have KB110 := Kp.set KB107 G109.1 R2
                have G111 := At.same G109 R2
                have G112 := At.other G108 NE106 R2
                refine hK.out _ _ (s_of HA.out HB.out KB110) (fun hHeld => ?_)
                refine wpAnyH_done (by kernel_rfl) ?_ _
                refine NoPanic.normal ?_
                go_wp2_with fail
                go_meet
                exact ⟨_, _, rfl, rfl, KB110, G112, G111⟩
              exact AllReadyH.nil
            exact AllReadyH.nil
          exact AllReadyH.nil
        refine AllReadyH.cons rfl (fun K hK => ?_) ?_
        · go_simp
          have KB113 := Kp.alloc KB95 (.cells Z 29)
          have G114 := At.new KB95 Z
          try simp only [World.size_alloc] at G114
          have NE116 := Nat.ne_of_lt (At.lt G98)
          try simp only [World.size_alloc] at NE116
          have G115 := At.alloc G98 (.cells Z 29)
          refine hK.out _ _ (s_of HA.out HB.out KB113) (fun hHeld => ?_)
          refine wpAnyH_ready (rs := [3]) (by kernel_rfl) (by simp) ?_
          refine AllReadyH.cons rfl (fun K hK => ?_) ?_
          · go_simp
            refine (row_R b0 b1 b2 b3 R2 _ Ob H2).mono ?_
            rintro e v118 ⟨rfl, hb119⟩
            go_wp2_with fail
            have KB117 := Kp.call KB113 hb119
            have G120 := At.call G115 hb119
            have G121 := At.call G114 hb119
            clear hb119
            refine hK.out _ _ (s_of HA.out HB.out KB117) (fun hHeld => ?_)
            refine wpAnyH_ready (rs := [6]) (by kernel_rfl) (by simp) ?_
            refine AllReadyH.cons rfl (fun K hK => ?_) ?_
            · rw [if_pos (by rfl)]
              refine wp_store_row 29 _ _ rfl _ R1 rfl rfl 29 Z G120.2 S1.out E1.out L1.out ?_
              simp only [List.getElem_toArray, List.getElem_cons_zero, List.getElem_cons_succ, Act.put, List.setIfInBounds_toArray, List.set_cons_zero, List.set_cons_succ]
              have KB122 := Kp.set KB117 G120.1 R1
              have G123 := At.same G120 R1
              have G124 := At.other G121 NE116.symm R1
              refine hK.out _ _ (s_of HA.out HB.out KB122) (fun hHeld => ?_)
              refine wpAnyH_ready (rs := [7]) (by kernel_rfl) (by simp) ?_
              refine AllReadyH.cons rfl (fun K hK => ?_) ?_
              · rw [if_pos (by rfl)]
                refine wp_store_row 29 _ _ rfl _ R2 rfl rfl 29 Z G124.2 S2.out E2.out L2.out ?_
                simp only [List.getElem_toArray, List.getElem_cons_zero, List.getElem_cons_succ, Act.put, List.setIfInBounds_toArray, List.set_cons_zero, List.set_cons_succ]
                have KB125 := Kp.set KB122 G124.1 R2
                have G126 := At.same G124 R2
                have G127 := At.other G123 NE116 R2
                refine hK.out _ _ (s_of HA.out HB.out KB125) (fun hHeld => ?_)
                refine wpAnyH_done (by kernel_rfl) ?_ _
                refine NoPanic.normal ?_
                go_wp2_with fail
                go_meet
                exact ⟨_, _, rfl, rfl, KB125, G127, G126⟩
              exact AllReadyH.nil
            exact AllReadyH.nil
          exact AllReadyH.nil
        exact AllReadyH.nil
      refine AllReadyH.cons rfl (fun K hK => ?_) ?_
      · go_simp
        have KB128 := Kp.alloc KB93 (.cells Z 29)
        have G129 := At.new KB93 Z
        try simp only [World.size_alloc] at G129
        have NE131 := Nat.ne_of_lt (At.lt G94)
        try simp only [World.size_alloc] at NE131
        have G130 := At.alloc G94 (.cells Z 29)
        refine hK.out _ _ (s_of HA.out HB.out KB128) (fun hHeld => ?_)
        refine wpAnyH_ready (rs := [1]) (by kernel_rfl) (by simp) ?_
        refine AllReadyH.cons rfl (fun K hK => ?_) ?_
        · go_simp
          refine (row_R a0 a1 a2 a3 R1 _ Oa H1).mono ?_
          rintro e v133 ⟨rfl, hb134⟩
          go_wp2_with fail
          have KB132 := Kp.call KB128 hb134
          have G135 := At.call G130 hb134
          have G136 := At.call G129 hb134
          clear hb134
          refine hK.out _ _ (s_of HA.out HB.out KB132) (fun hHeld => ?_)
          refine wpAnyH_ready (rs := [3]) (by kernel_rfl) (by simp) ?_
          refine AllReadyH.cons rfl (fun K hK => ?_) ?_
          · go_simp
            refine (row_R b0 b1 b2 b3 R2 _ Ob H2).mono ?_
            rintro e v138 ⟨rfl, hb139⟩
            go_wp2_with fail
            have KB137 := Kp.call KB132 hb139
            have G140 := At.call G135 hb139
            have G141 := At.call G136 hb139
            clear hb139
            refine hK.out _ _ (s_of HA.out HB.out KB137) (fun hHeld => ?_)
            refine wpAnyH_ready (rs := [6]) (by kernel_rfl) (by simp) ?_
            refine AllReadyH.cons rfl (fun K hK => ?_) ?_
            · rw [if_pos (by rfl)]
              refine wp_store_row 29 _ _ rfl _ R1 rfl rfl 29 Z G140.2 S1.out E1.out L1.out ?_
              simp only [List.getElem_toArray, List.getElem_cons_zero, List.getElem_cons_succ, Act.put, List.setIfInBounds_toArray, List.set_cons_zero, List.set_cons_succ]
              have KB142 := Kp.set KB137 G140.1 R1
              have G143 := At.same G140 R1
              have G144 := At.other G141 NE131.symm R1
              refine hK.out _ _ (s_of HA.out HB.out KB142) (fun hHeld => ?_)
              refine wpAnyH_ready (rs := [7]) (by kernel_rfl) (by simp) ?_
              refine AllReadyH.cons rfl (fun K hK => ?_) ?_
              · rw [if_pos (by rfl)]
                refine wp_store_row 29 _ _ rfl _ R2 rfl rfl 29 Z G144.2 S2.out E2.out L2.out ?_
                simp only [List.getElem_toArray, List.getElem_cons_zero, List.getElem_cons_succ, Act.put, List.setIfInBounds_toArray, List.set_cons_zero, List.set_cons_succ]
                have KB145 := Kp.set KB142 G144.1 R2
                have G146 := At.same G144 R2
                have G147 := At.other G143 NE131 R2
                refine hK.out _ _ (s_of HA.out HB.out KB145) (fun hHeld => ?_)
                refine wpAnyH_done (by kernel_rfl) ?_ _
                refine NoPanic.normal ?_
                go_wp2_with fail
                go_meet
                exact ⟨_, _, rfl, rfl, KB145, G147, G146⟩
              exact AllReadyH.nil
            exact AllReadyH.nil
          exact AllReadyH.nil
        exact AllReadyH.nil
      exact AllReadyH.nil
    refine AllReadyH.cons rfl (fun K hK => ?_) ?_
    · go_simp
      have KB148 := Kp.alloc KB0 (.cells Z 29)
      have G149 := At.new KB0 Z
      try simp only [World.size_alloc] at G149
      refine hK.out _ _ (s_of HA.out HB.out KB148) (fun hHeld => ?_)
      refine wpAnyH_ready (rs := [1, 4]) (by kernel_rfl) (by simp) ?_
      refine AllReadyH.cons rfl (fun K hK => ?_) ?_
      · go_simp
        refine (row_R a0 a1 a2 a3 R1 _ Oa H1).mono ?_
        rintro e v151 ⟨rfl, hb152⟩
        go_wp2_with fail
        have KB150 := Kp.call KB148 hb152
        have G153 := At.call G149 hb152
        clear hb152
        refine hK.out _ _ (s_of HA.out HB.out KB150) (fun hHeld => ?_)
        refine wpAnyH_ready (rs := [3, 4]) (by kernel_rfl) (by simp) ?_
        refine AllReadyH.cons rfl (fun K hK => ?_) ?_
        · go_simp
          refine (row_R b0 b1 b2 b3 R2 _ Ob H2).mono ?_
          rintro e v155 ⟨rfl, hb156⟩
          go_wp2_with fail
          have KB154 := Kp.call KB150 hb156
          have G157 := At.call G153 hb156
          clear hb156
          refine hK.out _ _ (s_of HA.out HB.out KB154) (fun hHeld => ?_)
          refine wpAnyH_ready (rs := [4]) (by kernel_rfl) (by simp) ?_
          refine AllReadyH.cons rfl (fun K hK => ?_) ?_
          · go_simp
            have KB158 := Kp.alloc KB154 (.cells Z 29)
            have G159 := At.new KB154 Z
            try simp only [World.size_alloc] at G159
            have NE161 := (Nat.ne_of_lt (At.lt G157)).symm
            try simp only [World.size_alloc] at NE161
            have G160 := At.alloc G157 (.cells Z 29)
            refine hK.out _ _ (s_of HA.out HB.out KB158) (fun hHeld => ?_)
            refine wpAnyH_ready (rs := [6]) (by kernel_rfl) (by simp) ?_
            refine AllReadyH.cons rfl (fun K hK => ?_) ?_
            · rw [if_pos (by rfl)]
              refine wp_store_row 29 _ _ rfl _ R1 rfl rfl 29 Z G159.2 S1.out E1.out L1.out ?_
              simp only [List.getElem_toArray, List.getElem_cons_zero, List.getElem_cons_succ, Act.put, List.setIfInBounds_toArray, List.set_cons_zero, List.set_cons_succ]
              have KB162 := Kp.set KB158 G159.1 R1
              have G163 := At.same G159 R1
              have G164 := At.other G160 NE161.symm R1
              refine hK.out _ _ (s_of HA.out HB.out KB162) (fun hHeld => ?_)
              refine wpAnyH_ready (rs := [7]) (by kernel_rfl) (by simp) ?_
              refine AllReadyH.cons rfl (fun K hK => ?_) ?_
              · rw [if_pos (by rfl)]
                refine wp_store_row 29 _ _ rfl _ R2 rfl rfl 29 Z G164.2 S2.out E2.out L2.out ?_
                simp only [List.getElem_toArray, List.getElem_cons_zero, List.getElem_cons_succ, Act.put, List.setIfInBounds_toArray, List.set_cons_zero, List.set_cons_succ]
                have KB165 := Kp.set KB162 G164.1 R2
                have G166 := At.same G164 R2
                have G167 := At.other G163 NE161 R2
                refine hK.out _ _ (s_of HA.out HB.out KB165) (fun hHeld => ?_)
                refine wpAnyH_done (by kernel_rfl) ?_ _
                refine NoPanic.normal ?_
                go_wp2_with fail
                go_meet
                exact ⟨_, _, rfl, rfl, KB165, G167, G166⟩
              exact AllReadyH.nil
            exact AllReadyH.nil
          exact AllReadyH.nil
        refine AllReadyH.cons rfl (fun K hK => ?_) ?_
        · go_simp
          have KB168 := Kp.alloc KB150 (.cells Z 29)
          have G169 := At.new KB150 Z
          try simp only [World.size_alloc] at G169
          have NE171 := (Nat.ne_of_lt (At.lt G153)).symm
          try simp only [World.size_alloc] at NE171
          have G170 := At.alloc G153 (.cells Z 29)
          refine hK.out _ _ (s_of HA.out HB.out KB168) (fun hHeld => ?_)
          refine wpAnyH_ready (rs := [3]) (by kernel_rfl) (by simp) ?_
          refine AllReadyH.cons rfl (fun K hK => ?_) ?_
          · go_simp
            refine (row_R b0 b1 b2 b3 R2 _ Ob H2).mono ?_
            rintro e v173 ⟨rfl, hb174⟩
            go_wp2_with fail
            have KB172 := Kp.call KB168 hb174
            have G175 := At.call G169 hb174
            have G176 := At.call G170 hb174
            clear hb174
            refine hK.out _ _ (s_of HA.out HB.out KB172) (fun hHeld => ?_)
            refine wpAnyH_ready (rs := [6]) (by kernel_rfl) (by simp) ?_
            refine AllReadyH.cons rfl (fun K hK => ?_) ?_
            · rw [if_pos (by rfl)]
              refine wp_store_row 29 _ _ rfl _ R1 rfl rfl 29 Z G175.2 S1.out E1.out L1.out ?_
              simp only [List.getElem_toArray, List.getElem_cons_zero, List.getElem_cons_succ, Act.put, List.setIfInBounds_toArray, List.set_cons_zero, List.set_cons_succ]
              have KB177 := Kp.set KB172 G175.1 R1
              have G178 := At.same G175 R1
              have G179 := At.other G176 NE171.symm R1
              refine hK.out _ _ (s_of HA.out HB.out KB177) (fun hHeld => ?_)
              refine wpAnyH_ready (rs := [7]) (by kernel_rfl) (by simp) ?_
              refine AllReadyH.cons rfl (fun K hK => ?_) ?_
              · rw [if_pos (by rfl)]
                refine wp_store_row 29 _ _ rfl _ R2 rfl rfl 29 Z G179.2 S2.out E2.out L2.out ?_
                simp only [List.getElem_toArray, List.getElem_cons_zero, List.getElem_cons_succ, Act.put, List.setIfInBounds_toArray, List.set_cons_zero, List.set_cons_succ]
                have KB180 := Kp.set KB177 G179.1 R2
                have G181 := At.same G179 R2
                have G182 := At.other G178 NE171 R2
                refine hK.out _ _ (s_of HA.out HB.out KB180) (fun hHeld => ?_)
                refine wpAnyH_done (by kernel_rfl) ?_ _
                refine NoPanic.normal ?_
                go_wp2_with fail
                go_meet
                exact ⟨_, _, rfl, rfl, KB180, G182, G181⟩
              exact AllReadyH.nil
            exact AllReadyH.nil
          exact AllReadyH.nil
        exact AllReadyH.nil
      refine AllReadyH.cons rfl (fun K hK => ?_) ?_
      · go_simp
        have KB183 := Kp.alloc KB148 (.cells Z 29)
        have G184 := At.new KB148 Z
        try simp only [World.size_alloc] at G184
        have NE186 := (Nat.ne_of_lt (At.lt G149)).symm
        try simp only [World.size_alloc] at NE186
        have G185 := At.alloc G149 (.cells Z 29)
        refine hK.out _ _ (s_of HA.out HB.out KB183) (fun hHeld => ?_)
        refine wpAnyH_ready (rs := [1]) (by kernel_rfl) (by simp) ?_
        refine AllReadyH.cons rfl (fun K hK => ?_) ?_
        · go_simp
          refine (row_R a0 a1 a2 a3 R1 _ Oa H1).mono ?_
          rintro e v188 ⟨rfl, hb189⟩
          go_wp2_with fail
          have KB187 := Kp.call KB183 hb189
          have G190 := At.call G184 hb189
          have G191 := At.call G185 hb189
          clear hb189
          refine hK.out _ _ (s_of HA.out HB.out KB187) (fun hHeld => ?_)
          refine wpAnyH_ready (rs := [3]) (by kernel_rfl) (by simp) ?_
          refine AllReadyH.cons rfl (fun K hK => ?_) ?_
          · go_simp
            refine (row_R b0 b1 b2 b3 R2 _ Ob H2).mono ?_
            rintro e v193 ⟨rfl, hb194⟩
            go_wp2_with fail
            have KB192 := Kp.call KB187 hb194
            have G195 := At.call G190 hb194
            have G196 := At.call G191 hb194
            clear hb194
            refine hK.out _ _ (s_of HA.out HB.out KB192) (fun hHeld => ?_)
            refine wpAnyH_ready (rs := [6]) (by kernel_rfl) (by simp) ?_
            refine AllReadyH.cons rfl (fun K hK => ?_) ?_
            · rw [if_pos (by rfl)]
              refine wp_store_row 29 _ _ rfl _ R1 rfl rfl 29 Z G195.2 S1.out E1.out L1.out ?_
              simp only [List.getElem_toArray, List.getElem_cons_zero, List.getElem_cons_succ, Act.put, List.setIfInBounds_toArray, List.set_cons_zero, List.set_cons_succ]
              have KB197 := Kp.set KB192 G195.1 R1
              have G198 := At.same G195 R1
              have G199 := At.other G196 NE186.symm R1
              refine hK.out _ _ (s_of HA.out HB.out KB197) (fun hHeld => ?_)
              refine wpAnyH_ready (rs := [7]) (by kernel_rfl) (by simp) ?_
              refine AllReadyH.cons rfl (fun K hK => ?_) ?_
              · rw [if_pos (by rfl)]
                refine wp_store_row 29 _ _ rfl _ R2 rfl rfl 29 Z G199.2 S2.out E2.out L2.out ?_
                simp only [List.getElem_toArray, List.getElem_cons_zero, List.getElem_cons_succ, Act.put, List.setIfInBounds_toArray, List.set_cons_zero, List.set_cons_succ]
                have KB200 := Kp.set KB197 G199.1 R2
                have G201 := At.same G199 R2
                have G202 := At.other G198 NE186 R2
                refine hK.out _ _ (s_of HA.out HB.out KB200) (fun hHeld => ?_)
                refine wpAnyH_done (by kernel_rfl) ?_ _
                refine NoPanic.normal ?_
                go_wp2_with fail
                go_meet
                exact ⟨_, _, rfl, rfl, KB200, G202, G201⟩
              exact AllReadyH.nil
            exact AllReadyH.nil
          exact AllReadyH.nil
        exact AllReadyH.nil
      exact AllReadyH.nil
    exact AllReadyH.nil
  case rest =>
    obtain ⟨g, h, rfl, rfl, KB, G1, G2⟩ := hcut
    have M0 : Mixing w g h R1 R2 Z wc := ⟨(KB.1.block _ (by omega)).trans HROW.out, (KB.1.block _ (by omega)).trans HRES.out, G1, G2, HBEL.out.trans (KB.1.mono (by omega))⟩
    clear KB G1 G2
    have hcl := mix_or_fn
    go_wp2_with fail
    go_loopw [15] (fun i wr => ∃ (n : Nat) (C : Array Value), n ≤ 256 ∧ i = .int .i64 n ∧ Filled (fun m => mem a0 a1 a2 a3 m || mem b0 b1 b2 b3 m) C n ∧ Mixing w g h R1 R2 C wr) (fun i _ => 256 - (intOf i).toNat)
    case atStart => exact ⟨0, Z, by omega, rfl, filled_zero _ _ hZ.out, M0⟩
    case round =>
      clear M0
      obtain ⟨n, C, hn, rfl, HF, M⟩ := hrel
      by_cases hlt : n < 256
      · obtain ⟨x, hx⟩ : ∃ x : Bool, mem a0 a1 a2 a3 n = x := ⟨_, rfl⟩
        obtain ⟨y, hy⟩ : ∃ y : Bool, mem b0 b1 b2 b3 n = y := ⟨_, rfl⟩
        have c1 : wr.cell? ⟨g, n, none⟩ = some (.bool x) := by rw [cell_of_row wr g n _ _ _ M.2.2.1.2, ← H1.out, boolsOf_at _ _ _ hlt, hx]
        have c2 : wr.cell? ⟨h, n, none⟩ = some (.bool y) := by rw [cell_of_row wr h n _ _ _ M.2.2.2.1.2, ← H2.out, boolsOf_at _ _ _ hlt, hy]
        obtain ⟨v, hv⟩ : ∃ v, C[n]? = some v := ⟨C[n]'(by rw [HF.1]; omega), by simp⟩
        have c3 : wr.cell? ⟨w.heap.size + 1 + 1 + 1, n, none⟩ = some v := by rw [cell_of_row wr _ n _ _ _ M.1]; exact hv
        have f3 : wr.frozen? ⟨w.heap.size + 1 + 1 + 1, n, none⟩ = false := frozen_of_row wr _ n _ _ M.1
        have HX := Lib.hid hx
        have HY := Lib.hid hy
        have HV := Lib.hid hv
        clear hx hy hv
        go_upto_region 6 with fail
        go_region_with (go_at_call 8; refine (hcl _ _ _).mono ?_; rintro e w7 ⟨rfl, rfl⟩)
        all_goals
          go_wp2_with fail
          go_roundw
          case rel => exact ⟨n + 1, _, by omega, by go_num, filled_step HF hlt (by rw [HX.out, HY.out]), M.step n (.bool (x || y))⟩
          case measure => simp [intOf]; omega
      · have hn256 : n = 256 := by omega
        subst hn256
        clear hlt hn
        have hC := filled_all HF
        have HCE := Lib.hid hC
        have HCS := Lib.hid HF.1
        clear hC HF
        go_wp2_with fail
        refine wp_load_row 29 _ rfl _ rfl 29 C (0, 0) _ M.1 Try.underlying29 rfl (by rw [size_row, HCS.out]) ?_
        go_wp2_with (go_at_call 10; refine (bits_core _ C HCE _).mono ?_; rintro e w8 ⟨rfl, hb8⟩; have Z8 := zero_cells ((hb8.block _ ((Array.getElem?_eq_some_iff.1 M.2.1).1)).trans M.2.1); have HB8 := Lib.hid hb8; clear hb8)
        refine bodyPost_ret (v := .agg #[.int .u64 (wof (fun m => mem a0 a1 a2 a3 m || mem b0 b1 b2 b3 m) 0 : Nat), .int .u64 (wof (fun m => mem a0 a1 a2 a3 m || mem b0 b1 b2 b3 m) 1 : Nat), .int .u64 (wof (fun m => mem a0 a1 a2 a3 m || mem b0 b1 b2 b3 m) 2 : Nat), .int .u64 (wof (fun m => mem a0 a1 a2 a3 m || mem b0 b1 b2 b3 m) 3 : Nat)]) (by simp [results, Try.results5, go_sem, Z8]) rfl ⟨rfl, ?_⟩
        have hw8 : Below w.heap.size w w8 := M.2.2.2.2.trans (HB8.out.mono M.2.2.2.2.size)
        repeat (first | exact hw8 | (refine Below.setCell ?_ (by simp; try omega) _))
end Go.Proofs.Ytcpoakikeahjeaa
