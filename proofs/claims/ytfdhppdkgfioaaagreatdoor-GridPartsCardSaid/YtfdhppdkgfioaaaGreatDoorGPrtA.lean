import Derived.Test.YtfdhppdkgfioaaaGreatDoorGrpJ
import Derived.Test.YtfdhppdkgfioaaaGreatDoorGrpS
import Derived.Test.YtfdhppdkgfioaaaGreatDoorPthG
import Derived.Test.YtfdhppdkgfioaaaGreatDoorPthB
import Derived.Test.YtfdhppdkgfioaaaGreatDoorRes
/- GridParts: the walk. -/
namespace Go.Proofs
open Go.RowKit
set_option maxHeartbeats 16000000
set_option maxRecDepth 1000000
theorem firstL4 (a b c d : Int) (blk cap : Nat) (w : World) (h0 : w.cell? ⟨blk, 0, none⟩ = some (.int .i64 a)) (h1 : w.cell? ⟨blk, 1, none⟩ = some (.int .i64 b)) (h2 : w.cell? ⟨blk, 2, none⟩ = some (.int .i64 c)) (h3 : w.cell? ⟨blk, 3, none⟩ = some (.int .i64 d)) :
    Calls Tryz.prog 15 #[.slice (some ⟨blk, 0, none⟩) 4 cap] w fun e w' => e = .returned (.int .i64 (fstI [a, b, c, d])) ∧ w' = w :=
  firstL_ok [a, b, c, d] blk cap w (by simp) fun k x hk => by
    match k, hk with
    | 0, hk => simp at hk; subst hk; exact h0
    | 1, hk => simp at hk; subst hk; exact h1
    | 2, hk => simp at hk; subst hk; exact h2
    | 3, hk => simp at hk; subst hk; exact h3
    | k + 4, hk => simp at hk
theorem partK_size (l : List Cel) : ∀ p ∈ partK NearR l l.length, p.length ≤ l.length := fun p hp => by
  obtain ⟨c, _, rfl⟩ := partK_is _ p hp
  unfold partC
  exact List.length_filter_le _ _
/-- The law's first error of two cells is Path's. -/
theorem one_is (l : List Cel) (a b : Cel) : fstI [if badC a then 3 else 0, if a ∈ l then 0 else 10, if badC b then 3 else 0, if b ∈ l then 0 else 10] = orI 0 (memE l a) (memE l b) := by
  unfold memE orI
  by_cases h1 : badC a = true <;> by_cases h2 : a ∈ l <;> by_cases h3 : badC b = true <;> by_cases h4 : b ∈ l <;> simp [fstI, h1, h2, h3, h4]
theorem one_zero {l : List Cel} {a b : Cel} (h : orI 0 (memE l a) (memE l b) = 0) : a ∈ l ∧ b ∈ l := by
  unfold memE orI at h
  by_cases h1 : badC a = true <;> by_cases h2 : a ∈ l <;> by_cases h3 : badC b = true <;> by_cases h4 : b ∈ l <;> simp_all
theorem gparts_out (l : List Cel) (A : Option Addr) (ka : Nat) (a b : Cel) (w : World) (kA : AwakeAt w) (h1 : shortB l.length 60 = false) :
    Calls Tryz.prog 3 #[.slice A l.length ka, cellV a, cellV b] w fun e w' => e = .returned (.bool true) ∧ Below w.heap.size w w' := by
  obtain ⟨ax, ay, az⟩ := a
  obtain ⟨bx, by_, bz⟩ := b
  obtain ⟨W0, hW0⟩ : ∃ W, W = (w.alloc (.cells #[.int .i64 ax, .int .i64 ay, .int .i64 az] 24)).alloc (.cells #[.int .i64 bx, .int .i64 by_, .int .i64 bz] 24) := ⟨_, rfl⟩
  have hX : Below w.heap.size w W0 := by subst hW0; exact ((Below.refl _ _).alloc (Nat.le_refl _) _).alloc (by simp) _
  have hCa : Boxed3 W0 w.heap.size (ax, ay, az) := by subst hW0; exact (Below.heap_alloc _ _ _ (by simp)).trans (World.alloc_heap_new w _)
  have hCb : Boxed3 W0 (w.heap.size + 1) (bx, by_, bz) := by
    subst hW0
    have h := World.alloc_heap_new (w.alloc (.cells #[.int .i64 ax, .int .i64 ay, .int .i64 az] 24)) (.cells #[.int .i64 bx, .int .i64 by_, .int .i64 bz] 24)
    rw [World.size_alloc] at h
    exact h
  have hs0 : w.heap.size + 2 ≤ W0.heap.size := by subst hW0; simp
  unfold cellV
  dsimp only
  have kS : ∀ W, Below W0.heap.size W0 W → (W.cell? ⟨w.heap.size, 0, none⟩ = some (.int .i64 ax) ∧ W.cell? ⟨w.heap.size, 1, none⟩ = some (.int .i64 ay) ∧ W.cell? ⟨w.heap.size, 2, none⟩ = some (.int .i64 az)) ∧ W.cell? ⟨w.heap.size + 1, 0, none⟩ = some (.int .i64 bx) ∧ W.cell? ⟨w.heap.size + 1, 1, none⟩ = some (.int .i64 by_) ∧ W.cell? ⟨w.heap.size + 1, 2, none⟩ = some (.int .i64 bz) := fun W h =>
    ⟨(show Boxed3 W w.heap.size (ax, ay, az) from (h.block _ (by omega)).trans hCa).cell, (show Boxed3 W (w.heap.size + 1) (bx, by_, bz) from (h.block _ (by omega)).trans hCb).cell⟩
  have k1 := fun W => short_false h1 A ka W
  clear h1 hCa hCb kS hs0
  go_enter Tryz.func3, Tryz.ntmps3
  go_upto_region 1 with fail
  rw [← hW0]
  clear hW0
  have k0 := kA W0 hX
  go_wp2_with fail
  refine k0.mono ?_
  rintro e w1 ⟨rfl, hY⟩
  clear k0
  go_wp2_with fail
  refine (k1 _).mono ?_
  rintro e w' ⟨rfl, hw'⟩
  subst hw'
  have hX1 := hX.trans (hY.mono hX.size)
  have k2 := kA _ hX1
  go_wp2_with fail
  refine k2.mono ?_
  rintro e w2 ⟨rfl, hB2⟩
  go_wp2
  go_ret
  exact ⟨rfl, hX1.trans (hB2.mono hX1.size)⟩
theorem gparts_bad (l : List Cel) (A : Option Addr) (ka : Nat) (a b : Cel) (w : World) (kA : AwakeAt w) (hl : Sl w (.slice A l.length ka) l) (h1 : shortB l.length 60 = true) (c : Int) (hc : chkI l = c) (h0 : c ≠ 0) :
    Calls Tryz.prog 3 #[.slice A l.length ka, cellV a, cellV b] w fun e w' => e = .returned (.bool true) ∧ Below w.heap.size w w' := by
  obtain ⟨ax, ay, az⟩ := a
  obtain ⟨bx, by_, bz⟩ := b
  obtain ⟨W0, hW0⟩ : ∃ W, W = (w.alloc (.cells #[.int .i64 ax, .int .i64 ay, .int .i64 az] 24)).alloc (.cells #[.int .i64 bx, .int .i64 by_, .int .i64 bz] 24) := ⟨_, rfl⟩
  have hX : Below w.heap.size w W0 := by subst hW0; exact ((Below.refl _ _).alloc (Nat.le_refl _) _).alloc (by simp) _
  have hCa : Boxed3 W0 w.heap.size (ax, ay, az) := by subst hW0; exact (Below.heap_alloc _ _ _ (by simp)).trans (World.alloc_heap_new w _)
  have hCb : Boxed3 W0 (w.heap.size + 1) (bx, by_, bz) := by
    subst hW0
    have h := World.alloc_heap_new (w.alloc (.cells #[.int .i64 ax, .int .i64 ay, .int .i64 az] 24)) (.cells #[.int .i64 bx, .int .i64 by_, .int .i64 bz] 24)
    rw [World.size_alloc] at h
    exact h
  have hs0 : w.heap.size + 2 ≤ W0.heap.size := by subst hW0; simp
  unfold cellV
  dsimp only
  have kS : ∀ W, Below W0.heap.size W0 W → (W.cell? ⟨w.heap.size, 0, none⟩ = some (.int .i64 ax) ∧ W.cell? ⟨w.heap.size, 1, none⟩ = some (.int .i64 ay) ∧ W.cell? ⟨w.heap.size, 2, none⟩ = some (.int .i64 az)) ∧ W.cell? ⟨w.heap.size + 1, 0, none⟩ = some (.int .i64 bx) ∧ W.cell? ⟨w.heap.size + 1, 1, none⟩ = some (.int .i64 by_) ∧ W.cell? ⟨w.heap.size + 1, 2, none⟩ = some (.int .i64 bz) := fun W h =>
    ⟨(show Boxed3 W w.heap.size (ax, ay, az) from (h.block _ (by omega)).trans hCa).cell, (show Boxed3 W (w.heap.size + 1) (bx, by_, bz) from (h.block _ (by omega)).trans hCb).cell⟩
  have la := short_len h1 (by omega)
  have hl0 := hl.below hX
  have k1 := fun W => short_true h1 A ka W
  have kP := fun W (h : Below W0.heap.size W0 W) => Parts_bad l _ W (hl0.below h) (by unfold maxLen; omega) c hc h0
  have kH := fun W (h : Below W0.heap.size W0 W) => Shell_bad l _ W (hl0.below h) (by unfold maxLen; omega) c hc h0
  have hor : ∀ x y, orI c x y = c := fun x y => by unfold orI; rw [if_pos h0]
  have kW := fun W (h : Below W0.heap.size W0 W) => path_bad l _ (ax, ay, az) (bx, by_, bz) W (hl0.below h) (by omega) c _ _ hc rfl rfl (by rw [hor]; exact h0)
  rw [hor] at kW
  unfold cellV at kW
  dsimp only at kW
  have kC := fun W (h : Below W0.heap.size W0 W) => refCheckG l _ W (hl0.below h) (by unfold maxLen; omega)
  rw [hc] at kC
  have kL := fun W => lists_bad none none 0 0 0 c h0 W
  have kZ := fun W => cells_bad none none 0 0 0 c h0 W
  have hne : (c != 0) = true := by rw [bne_iff_ne]; exact h0
  clear h1 hCa hCb hs0 hor hl hl0 hc h0 la
  go_enter Tryz.func3, Tryz.ntmps3
  go_upto_region 1 with fail
  rw [← hW0]
  clear hW0
  have k0 := kA W0 hX
  go_wp2_with fail
  refine k0.mono ?_
  rintro e w1 ⟨rfl, hY⟩
  clear k0
  go_wp2_with fail
  refine (k1 _).mono ?_
  rintro e w' ⟨rfl, hw'⟩
  subst hw'
  have q := kP _ hY
  go_wp2_with fail
  refine q.mono ?_
  rintro e w2 ⟨rfl, hB⟩
  replace hY := hY.trans (hB.mono hY.size)
  clear hB q
  have q := kH _ hY
  go_wp2_with fail
  refine q.mono ?_
  rintro e w3 ⟨rfl, hB⟩
  replace hY := hY.trans (hB.mono hY.size)
  obtain ⟨⟨a0, a1, a2⟩, b0, b1, b2⟩ := kS _ hY
  clear hB q
  have q := kW _ hY
  go_wp2_with fail
  refine q.mono ?_
  rintro e w4 ⟨rfl, hB⟩
  replace hY := hY.trans (hB.mono hY.size)
  clear a0 a1 a2 b0 b1 b2
  clear hB q
  have q := kC _ hY
  go_wp2_with fail
  refine q.mono ?_
  rintro e w5 ⟨rfl, hB⟩
  replace hY := hY.trans (hB.mono hY.size)
  clear hB q
  go_wp2_with fail
  refine (kL _).mono ?_
  rintro e w' ⟨rfl, hw'⟩
  subst hw'
  go_wp2_with fail
  refine (kZ _).mono ?_
  rintro e w' ⟨rfl, hw'⟩
  subst hw'
  go_wp2_with fail
  refine (kZ _).mono ?_
  rintro e w' ⟨rfl, hw'⟩
  subst hw'
  go_wp2
  go_ret
  exact ⟨rfl, hX.trans (hY.mono hX.size)⟩
theorem gparts_one (l : List Cel) (A : Option Addr) (ka : Nat) (a b : Cel) (w : World) (kA : AwakeAt w) (hl : Sl w (.slice A l.length ka) l) (h1 : shortB l.length 60 = true) (hc : chkI l = 0) (h0 : orI 0 (memE l a) (memE l b) ≠ 0) :
    Calls Tryz.prog 3 #[.slice A l.length ka, cellV a, cellV b] w fun e w' => e = .returned (.bool true) ∧ Below w.heap.size w w' := by
  have la := short_len h1 (by omega)
  have l60 : l.length ≤ 60 := by have := (chkI_zero.1 hc).1; omega
  have hone := one_is l a b
  have kPa := fun (v : Value) W (h : Sl W v l) => path_bad l v a b W h (by omega) 0 _ _ hc rfl rfl h0
  have hne : (orI 0 (memE l a) (memE l b) != 0) = true := by rw [bne_iff_ne]; exact h0
  obtain ⟨ax, ay, az⟩ := a
  obtain ⟨bx, by_, bz⟩ := b
  obtain ⟨W0, hW0⟩ : ∃ W, W = (w.alloc (.cells #[.int .i64 ax, .int .i64 ay, .int .i64 az] 24)).alloc (.cells #[.int .i64 bx, .int .i64 by_, .int .i64 bz] 24) := ⟨_, rfl⟩
  have hX : Below w.heap.size w W0 := by subst hW0; exact ((Below.refl _ _).alloc (Nat.le_refl _) _).alloc (by simp) _
  have hCa : Boxed3 W0 w.heap.size (ax, ay, az) := by subst hW0; exact (Below.heap_alloc _ _ _ (by simp)).trans (World.alloc_heap_new w _)
  have hCb : Boxed3 W0 (w.heap.size + 1) (bx, by_, bz) := by
    subst hW0
    have h := World.alloc_heap_new (w.alloc (.cells #[.int .i64 ax, .int .i64 ay, .int .i64 az] 24)) (.cells #[.int .i64 bx, .int .i64 by_, .int .i64 bz] 24)
    rw [World.size_alloc] at h
    exact h
  have hs0 : w.heap.size + 2 ≤ W0.heap.size := by subst hW0; simp
  unfold cellV
  dsimp only
  have kS : ∀ W, Below W0.heap.size W0 W → (W.cell? ⟨w.heap.size, 0, none⟩ = some (.int .i64 ax) ∧ W.cell? ⟨w.heap.size, 1, none⟩ = some (.int .i64 ay) ∧ W.cell? ⟨w.heap.size, 2, none⟩ = some (.int .i64 az)) ∧ W.cell? ⟨w.heap.size + 1, 0, none⟩ = some (.int .i64 bx) ∧ W.cell? ⟨w.heap.size + 1, 1, none⟩ = some (.int .i64 by_) ∧ W.cell? ⟨w.heap.size + 1, 2, none⟩ = some (.int .i64 bz) := fun W h =>
    ⟨(show Boxed3 W w.heap.size (ax, ay, az) from (h.block _ (by omega)).trans hCa).cell, (show Boxed3 W (w.heap.size + 1) (bx, by_, bz) from (h.block _ (by omega)).trans hCb).cell⟩
  have hl0 := hl.below hX
  have k1 := fun W => short_true h1 A ka W
  have kP := fun W (h : Below W0.heap.size W0 W) => Parts_ok l _ W (hl0.below h) hc
  have kH := fun W (h : Below W0.heap.size W0 W) => shellG_ok l _ W (hl0.below h) hc
  have kW := fun W (h : Below W0.heap.size W0 W) => kPa _ W (hl0.below h)
  have kC := fun W (h : Below W0.heap.size W0 W) => refCheckG l _ W (hl0.below h) (by unfold maxLen; omega)
  rw [hc] at kC
  have kPR := fun W (h : Below W0.heap.size W0 W) => refParts_ok l _ W (hl0.below h) hc
  have kHR := fun W (h : Below W0.heap.size W0 W) => refShell_ok l _ W (hl0.below h) hc
  have kA1 := fun W => refCheckCellG ax ay az W
  have kA2 := fun W (h : Below W0.heap.size W0 W) => has_ok l _ ax ay az W (hl0.below h) (by omega)
  have kB1 := fun W => refCheckCellG bx by_ bz W
  have kB2 := fun W (h : Below W0.heap.size W0 W) => has_ok l _ bx by_ bz W (hl0.below h) (by omega)
  obtain ⟨za, hza⟩ : ∃ z, decide ((ax, ay, az) ∈ l) = z := ⟨_, rfl⟩
  obtain ⟨zb, hzb⟩ : ∃ z, decide ((bx, by_, bz) ∈ l) = z := ⟨_, rfl⟩
  rw [hza] at kA2
  rw [hzb] at kB2
  have eA : (if !za then (10 : Int) else 0) = if (ax, ay, az) ∈ l then 0 else 10 := by rw [← hza]; by_cases h : (ax, ay, az) ∈ l <;> simp [h]
  have eB : (if !zb then (10 : Int) else 0) = if (bx, by_, bz) ∈ l then 0 else 10 := by rw [← hzb]; by_cases h : (bx, by_, bz) ∈ l <;> simp [h]
  have kA3 := fun W => when_ok (!za) 10 W
  have kB3 := fun W => when_ok (!zb) 10 W
  rw [eA] at kA3
  rw [eB] at kB3
  have kF := fun blk W k0 k1 k2 k3 => firstL4 (if badC (ax, ay, az) then 3 else 0) (if (ax, ay, az) ∈ l then 0 else 10) (if badC (bx, by_, bz) then 3 else 0) (if (bx, by_, bz) ∈ l then 0 else 10) blk 4 W k0 k1 k2 k3
  rw [hone] at kF
  generalize (if badC (ax, ay, az) then (3 : Int) else 0) = r1 at kA1 kF
  generalize (if (ax, ay, az) ∈ l then (0 : Int) else 10) = r2 at kA3 kF
  generalize (if badC (bx, by_, bz) then (3 : Int) else 0) = r3 at kB1 kF
  generalize (if (bx, by_, bz) ∈ l then (0 : Int) else 10) = r4 at kB3 kF
  unfold cellV at kW
  dsimp only at kW
  have kZ := fun W => cells_bad none none 0 0 0 _ h0 W
  generalize orI 0 (memE l (ax, ay, az)) (memE l (bx, by_, bz)) = r at kF kW kZ hne
  have psz := fun p hp => Nat.le_trans (partK_size l p hp) (show l.length ≤ 4096 by omega)
  have pln : (partK NearR l l.length).length ≤ 4096 := by
    have h := partK_le l l.length
    omega
  have fln : (l.filter fun c => !insB l c).length ≤ 4096 := Nat.le_trans (List.length_filter_le _ _) (by omega)
  clear hone eA eB hza hzb kPa hl hl0 h1 la hCa hCb hs0 hc
  go_enter Tryz.func3, Tryz.ntmps3
  go_upto_region 1 with fail
  rw [← hW0]
  clear hW0
  have k0 := kA W0 hX
  go_wp2_with fail
  refine k0.mono ?_
  rintro e w1 ⟨rfl, hY⟩
  clear k0
  go_wp2_with fail
  refine (k1 _).mono ?_
  rintro e w' ⟨rfl, hw'⟩
  subst hw'
  have q := kP _ hY
  go_wp2_with fail
  refine q.mono ?_
  rintro e w2 ⟨v2, rfl, ho2, hB⟩
  replace hY := hY.trans (hB.mono hY.size)
  have s2 := ho2.sl
  clear ho2
  clear hB q
  obtain ⟨A2, c2, rfl⟩ := s2.form
  have q := kH _ hY
  go_wp2_with fail
  refine q.mono ?_
  rintro e w3 ⟨v3, rfl, s3, hB⟩
  replace hY := hY.trans (hB.mono hY.size)
  replace s2 := s2.below hB
  obtain ⟨⟨a0, a1, a2⟩, b0, b1, b2⟩ := kS _ hY
  clear hB q
  obtain ⟨A3, c3, rfl⟩ := s3.form
  have q := kW _ hY
  go_wp2_with fail
  refine q.mono ?_
  rintro e w4 ⟨rfl, hB⟩
  replace hY := hY.trans (hB.mono hY.size)
  replace s2 := s2.below hB
  replace s3 := s3.below hB
  clear a0 a1 a2 b0 b1 b2
  clear hB q
  have q := kC _ hY
  go_wp2_with fail
  refine q.mono ?_
  rintro e w5 ⟨rfl, hB⟩
  replace hY := hY.trans (hB.mono hY.size)
  replace s2 := s2.below hB
  replace s3 := s3.below hB
  clear hB q
  have q := kPR _ hY
  go_wp2_with fail
  refine q.mono ?_
  rintro e w6 ⟨v6, rfl, ho6, hB⟩
  replace hY := hY.trans (hB.mono hY.size)
  replace s2 := s2.below hB
  replace s3 := s3.below hB
  have s6 := ho6.sl
  clear ho6
  clear hB q
  obtain ⟨A6, c6, rfl⟩ := s6.form
  have q := lists_same _ _ _ _ s2 s6 pln psz
  go_wp2_with fail
  refine q.mono ?_
  rintro e w7 ⟨rfl, hB⟩
  replace hY := hY.trans (hB.mono hY.size)
  replace s3 := s3.below hB
  clear s2 s6
  clear hB q
  have q := kHR _ hY
  go_wp2_with fail
  refine q.mono ?_
  rintro e w8 ⟨v8, rfl, ho8, hB⟩
  replace hY := hY.trans (hB.mono hY.size)
  replace s3 := s3.below hB
  have s8 := ho8.sl
  clear ho8
  clear hB q
  obtain ⟨A8, c8, rfl⟩ := s8.form
  have q := cells_same _ _ _ _ s3 s8 fln
  go_wp2_with fail
  refine q.mono ?_
  rintro e w9 ⟨rfl, hB⟩
  replace hY := hY.trans (hB.mono hY.size)
  clear s3 s8
  clear hB q
  have hS0 := kS _ (hY.trans (Below.refl _ _).drew)
  replace hY : Below W0.heap.size W0 w9.drew := hY.trans (Below.refl _ _).drew
  go_wp2_with fail
  go_region_held3 (fun W => (W.cell? ⟨w.heap.size, 0, none⟩ = some (.int .i64 ax) ∧ W.cell? ⟨w.heap.size, 1, none⟩ = some (.int .i64 ay) ∧ W.cell? ⟨w.heap.size, 2, none⟩ = some (.int .i64 az)) ∧ W.cell? ⟨w.heap.size + 1, 0, none⟩ = some (.int .i64 bx) ∧ W.cell? ⟨w.heap.size + 1, 1, none⟩ = some (.int .i64 by_) ∧ W.cell? ⟨w.heap.size + 1, 2, none⟩ = some (.int .i64 bz)) (first | exact hS0 | exact hS1 | exact kS _ (hY.alloc hY.size _) | go_keep) (first
    | (go_at_call 16; first
        | (with_reducible refine (kA1 _).mono ?_; rintro e w10 ⟨rfl, hB⟩; replace hY := hY.trans (hB.mono hY.size); have hS1 := kS _ hY; clear hB)
        | (with_reducible refine (kB1 _).mono ?_; rintro e w11 ⟨rfl, hB⟩; replace hY := hY.trans (hB.mono hY.size); have hS1 := kS _ hY; clear hB))
    | (go_at_call 18; first
        | (with_reducible refine (kA2 _ hY).mono ?_; rintro e w12 ⟨rfl, hB⟩; replace hY := hY.trans (hB.mono hY.size); have hS1 := kS _ hY; clear hB)
        | (with_reducible refine (kB2 _ hY).mono ?_; rintro e w13 ⟨rfl, hB⟩; replace hY := hY.trans (hB.mono hY.size); have hS1 := kS _ hY; clear hB))
    | (go_at_call 17; first
        | (with_reducible refine (kA3 _).mono ?_; rintro e w14 ⟨rfl, hw14⟩; obtain rfl := hw14)
        | (with_reducible refine (kB3 _).mono ?_; rintro e w15 ⟨rfl, hw15⟩; obtain rfl := hw15))
    | (go_at_call 15; refine (kF _ _ (by go_simp) (by go_simp) (by go_simp) (by go_simp)).mono ?_; rintro e w16 ⟨rfl, hw16⟩; obtain rfl := hw16))
  rename_i hHeld
  clear hHeld hS1 hS0
  replace hY := hY.alloc hY.size (.cells #[.int .i64 r1, .int .i64 r2, .int .i64 r3, .int .i64 r4] 3)
  go_wp2_with fail
  refine (kZ _).mono ?_
  rintro e w' ⟨rfl, hw'⟩
  subst hw'
  go_wp2
  go_ret
  exact ⟨rfl, hX.trans (hY.mono hX.size)⟩
theorem gparts_none (l : List Cel) (A : Option Addr) (ka : Nat) (a b : Cel) (w : World) (kA : AwakeAt w) (hl : Sl w (.slice A l.length ka) l) (h1 : shortB l.length 60 = true) (hc : chkI l = 0) (h0 : orI 0 (memE l a) (memE l b) = 0) (hp : pathC l a b = none) :
    Calls Tryz.prog 3 #[.slice A l.length ka, cellV a, cellV b] w fun e w' => e = .returned (.bool true) ∧ Below w.heap.size w w' := by
  have la := short_len h1 (by omega)
  have l60 : l.length ≤ 60 := by have := (chkI_zero.1 hc).1; omega
  have hone := one_is l a b
  obtain ⟨ma, mb⟩ := one_zero h0
  have kPa := fun (v : Value) W (h : Sl W v l) => path_ok l v a b W h hc ma mb
  have kPr := fun (v : Value) W (h : Sl W v l) => refPath_ok l v a b W h hc ma mb
  rw [hp] at kPa kPr
  obtain ⟨ax, ay, az⟩ := a
  obtain ⟨bx, by_, bz⟩ := b
  obtain ⟨W0, hW0⟩ : ∃ W, W = (w.alloc (.cells #[.int .i64 ax, .int .i64 ay, .int .i64 az] 24)).alloc (.cells #[.int .i64 bx, .int .i64 by_, .int .i64 bz] 24) := ⟨_, rfl⟩
  have hX : Below w.heap.size w W0 := by subst hW0; exact ((Below.refl _ _).alloc (Nat.le_refl _) _).alloc (by simp) _
  have hCa : Boxed3 W0 w.heap.size (ax, ay, az) := by subst hW0; exact (Below.heap_alloc _ _ _ (by simp)).trans (World.alloc_heap_new w _)
  have hCb : Boxed3 W0 (w.heap.size + 1) (bx, by_, bz) := by
    subst hW0
    have h := World.alloc_heap_new (w.alloc (.cells #[.int .i64 ax, .int .i64 ay, .int .i64 az] 24)) (.cells #[.int .i64 bx, .int .i64 by_, .int .i64 bz] 24)
    rw [World.size_alloc] at h
    exact h
  have hs0 : w.heap.size + 2 ≤ W0.heap.size := by subst hW0; simp
  unfold cellV
  dsimp only
  have kS : ∀ W, Below W0.heap.size W0 W → (W.cell? ⟨w.heap.size, 0, none⟩ = some (.int .i64 ax) ∧ W.cell? ⟨w.heap.size, 1, none⟩ = some (.int .i64 ay) ∧ W.cell? ⟨w.heap.size, 2, none⟩ = some (.int .i64 az)) ∧ W.cell? ⟨w.heap.size + 1, 0, none⟩ = some (.int .i64 bx) ∧ W.cell? ⟨w.heap.size + 1, 1, none⟩ = some (.int .i64 by_) ∧ W.cell? ⟨w.heap.size + 1, 2, none⟩ = some (.int .i64 bz) := fun W h =>
    ⟨(show Boxed3 W w.heap.size (ax, ay, az) from (h.block _ (by omega)).trans hCa).cell, (show Boxed3 W (w.heap.size + 1) (bx, by_, bz) from (h.block _ (by omega)).trans hCb).cell⟩
  have hl0 := hl.below hX
  have k1 := fun W => short_true h1 A ka W
  have kP := fun W (h : Below W0.heap.size W0 W) => Parts_ok l _ W (hl0.below h) hc
  have kH := fun W (h : Below W0.heap.size W0 W) => shellG_ok l _ W (hl0.below h) hc
  have kW := fun W (h : Below W0.heap.size W0 W) => kPa _ W (hl0.below h)
  have kC := fun W (h : Below W0.heap.size W0 W) => refCheckG l _ W (hl0.below h) (by unfold maxLen; omega)
  rw [hc] at kC
  have kPR := fun W (h : Below W0.heap.size W0 W) => refParts_ok l _ W (hl0.below h) hc
  have kHR := fun W (h : Below W0.heap.size W0 W) => refShell_ok l _ W (hl0.below h) hc
  have kA1 := fun W => refCheckCellG ax ay az W
  have kA2 := fun W (h : Below W0.heap.size W0 W) => has_ok l _ ax ay az W (hl0.below h) (by omega)
  have kB1 := fun W => refCheckCellG bx by_ bz W
  have kB2 := fun W (h : Below W0.heap.size W0 W) => has_ok l _ bx by_ bz W (hl0.below h) (by omega)
  obtain ⟨za, hza⟩ : ∃ z, decide ((ax, ay, az) ∈ l) = z := ⟨_, rfl⟩
  obtain ⟨zb, hzb⟩ : ∃ z, decide ((bx, by_, bz) ∈ l) = z := ⟨_, rfl⟩
  rw [hza] at kA2
  rw [hzb] at kB2
  have eA : (if !za then (10 : Int) else 0) = if (ax, ay, az) ∈ l then 0 else 10 := by rw [← hza]; by_cases h : (ax, ay, az) ∈ l <;> simp [h]
  have eB : (if !zb then (10 : Int) else 0) = if (bx, by_, bz) ∈ l then 0 else 10 := by rw [← hzb]; by_cases h : (bx, by_, bz) ∈ l <;> simp [h]
  have kA3 := fun W => when_ok (!za) 10 W
  have kB3 := fun W => when_ok (!zb) 10 W
  rw [eA] at kA3
  rw [eB] at kB3
  have kF := fun blk W k0 k1 k2 k3 => firstL4 (if badC (ax, ay, az) then 3 else 0) (if (ax, ay, az) ∈ l then 0 else 10) (if badC (bx, by_, bz) then 3 else 0) (if (bx, by_, bz) ∈ l then 0 else 10) blk 4 W k0 k1 k2 k3
  rw [hone] at kF
  generalize (if badC (ax, ay, az) then (3 : Int) else 0) = r1 at kA1 kF
  generalize (if (ax, ay, az) ∈ l then (0 : Int) else 10) = r2 at kA3 kF
  generalize (if badC (bx, by_, bz) then (3 : Int) else 0) = r3 at kB1 kF
  generalize (if (bx, by_, bz) ∈ l then (0 : Int) else 10) = r4 at kB3 kF
  unfold cellV at kW
  dsimp only at kW
  rw [h0] at kF
  have kR := fun W (h : Below W0.heap.size W0 W) => kPr _ W (hl0.below h)
  unfold cellV at kR
  dsimp only at kR
  have kV := fun W => when_ok true 7 W
  have kZ := fun W => cells_bad none none 0 0 0 7 (by decide) W
  have psz := fun p hp => Nat.le_trans (partK_size l p hp) (show l.length ≤ 4096 by omega)
  have pln : (partK NearR l l.length).length ≤ 4096 := by
    have h := partK_le l l.length
    omega
  have fln : (l.filter fun c => !insB l c).length ≤ 4096 := Nat.le_trans (List.length_filter_le _ _) (by omega)
  clear hone eA eB hza hzb kPa hl hl0 h1 la hCa hCb hs0 hc
  clear kPr ma mb hp
  go_enter Tryz.func3, Tryz.ntmps3
  go_upto_region 1 with fail
  rw [← hW0]
  clear hW0
  have k0 := kA W0 hX
  go_wp2_with fail
  refine k0.mono ?_
  rintro e w1 ⟨rfl, hY⟩
  clear k0
  go_wp2_with fail
  refine (k1 _).mono ?_
  rintro e w' ⟨rfl, hw'⟩
  subst hw'
  have q := kP _ hY
  go_wp2_with fail
  refine q.mono ?_
  rintro e w2 ⟨v2, rfl, ho2, hB⟩
  replace hY := hY.trans (hB.mono hY.size)
  have s2 := ho2.sl
  clear ho2
  clear hB q
  obtain ⟨A2, c2, rfl⟩ := s2.form
  have q := kH _ hY
  go_wp2_with fail
  refine q.mono ?_
  rintro e w3 ⟨v3, rfl, s3, hB⟩
  replace hY := hY.trans (hB.mono hY.size)
  replace s2 := s2.below hB
  obtain ⟨⟨a0, a1, a2⟩, b0, b1, b2⟩ := kS _ hY
  clear hB q
  obtain ⟨A3, c3, rfl⟩ := s3.form
  have q := kW _ hY
  go_wp2_with fail
  refine q.mono ?_
  rintro e w4 ⟨h4, hB⟩
  obtain ⟨-, rfl⟩ | ⟨p, v4, h4, -⟩ := h4
  rotate_left
  · cases h4
  replace hY := hY.trans (hB.mono hY.size)
  replace s2 := s2.below hB
  replace s3 := s3.below hB
  clear hB q a0 a1 a2 b0 b1 b2
  have q := kC _ hY
  go_wp2_with fail
  refine q.mono ?_
  rintro e w5 ⟨rfl, hB⟩
  replace hY := hY.trans (hB.mono hY.size)
  replace s2 := s2.below hB
  replace s3 := s3.below hB
  clear hB q
  have q := kPR _ hY
  go_wp2_with fail
  refine q.mono ?_
  rintro e w6 ⟨v6, rfl, ho6, hB⟩
  replace hY := hY.trans (hB.mono hY.size)
  replace s2 := s2.below hB
  replace s3 := s3.below hB
  have s6 := ho6.sl
  clear ho6
  clear hB q
  obtain ⟨A6, c6, rfl⟩ := s6.form
  have q := lists_same _ _ _ _ s2 s6 pln psz
  go_wp2_with fail
  refine q.mono ?_
  rintro e w7 ⟨rfl, hB⟩
  replace hY := hY.trans (hB.mono hY.size)
  replace s3 := s3.below hB
  clear s2 s6
  clear hB q
  have q := kHR _ hY
  go_wp2_with fail
  refine q.mono ?_
  rintro e w8 ⟨v8, rfl, ho8, hB⟩
  replace hY := hY.trans (hB.mono hY.size)
  replace s3 := s3.below hB
  have s8 := ho8.sl
  clear ho8
  clear hB q
  obtain ⟨A8, c8, rfl⟩ := s8.form
  have q := cells_same _ _ _ _ s3 s8 fln
  go_wp2_with fail
  refine q.mono ?_
  rintro e w9 ⟨rfl, hB⟩
  replace hY := hY.trans (hB.mono hY.size)
  clear s3 s8
  clear hB q
  have hS0 := kS _ (hY.trans (Below.refl _ _).drew)
  replace hY : Below W0.heap.size W0 w9.drew := hY.trans (Below.refl _ _).drew
  go_wp2_with fail
  go_region_held3 (fun W => (W.cell? ⟨w.heap.size, 0, none⟩ = some (.int .i64 ax) ∧ W.cell? ⟨w.heap.size, 1, none⟩ = some (.int .i64 ay) ∧ W.cell? ⟨w.heap.size, 2, none⟩ = some (.int .i64 az)) ∧ W.cell? ⟨w.heap.size + 1, 0, none⟩ = some (.int .i64 bx) ∧ W.cell? ⟨w.heap.size + 1, 1, none⟩ = some (.int .i64 by_) ∧ W.cell? ⟨w.heap.size + 1, 2, none⟩ = some (.int .i64 bz)) (first | exact hS0 | exact hS1 | exact kS _ (hY.alloc hY.size _) | go_keep) (first
    | (go_at_call 16; first
        | (with_reducible refine (kA1 _).mono ?_; rintro e w10 ⟨rfl, hB⟩; replace hY := hY.trans (hB.mono hY.size); have hS1 := kS _ hY; clear hB)
        | (with_reducible refine (kB1 _).mono ?_; rintro e w11 ⟨rfl, hB⟩; replace hY := hY.trans (hB.mono hY.size); have hS1 := kS _ hY; clear hB))
    | (go_at_call 18; first
        | (with_reducible refine (kA2 _ hY).mono ?_; rintro e w12 ⟨rfl, hB⟩; replace hY := hY.trans (hB.mono hY.size); have hS1 := kS _ hY; clear hB)
        | (with_reducible refine (kB2 _ hY).mono ?_; rintro e w13 ⟨rfl, hB⟩; replace hY := hY.trans (hB.mono hY.size); have hS1 := kS _ hY; clear hB))
    | (go_at_call 17; first
        | (with_reducible refine (kA3 _).mono ?_; rintro e w14 ⟨rfl, hw14⟩; obtain rfl := hw14)
        | (with_reducible refine (kB3 _).mono ?_; rintro e w15 ⟨rfl, hw15⟩; obtain rfl := hw15))
    | (go_at_call 15; refine (kF _ _ (by go_simp) (by go_simp) (by go_simp) (by go_simp)).mono ?_; rintro e w16 ⟨rfl, hw16⟩; obtain rfl := hw16))
  rename_i hHeld
  clear hHeld hS1 hS0
  replace hY := hY.alloc hY.size (.cells #[.int .i64 r1, .int .i64 r2, .int .i64 r3, .int .i64 r4] 3)
  generalize w15.alloc (.cells #[.int .i64 r1, .int .i64 r2, .int .i64 r3, .int .i64 r4] 3) = w16 at hY ⊢
  obtain ⟨⟨a0, a1, a2⟩, b0, b1, b2⟩ := kS _ hY
  have q := kR _ hY
  go_wp2_with fail
  refine q.mono ?_
  rintro e w17 ⟨v17, rfl, ho17, hB⟩
  replace hY := hY.trans (hB.mono hY.size)
  have s17 : Sl w17 v17 [] := ho17.sl
  obtain ⟨A17, c17, rfl⟩ := s17.form
  clear hB q a0 a1 a2 b0 b1 b2 ho17 s17
  have kZ := fun W => cells_bad none A17 0 c17 0 7 (by decide) W
  go_wp2_with fail
  refine (kV _).mono ?_
  rintro e w' ⟨rfl, hw'⟩
  subst hw'
  go_wp2_with fail
  refine (kZ _).mono ?_
  rintro e w' ⟨rfl, hw'⟩
  subst hw'
  go_wp2
  go_ret
  exact ⟨rfl, hX.trans (hY.mono hX.size)⟩
theorem gparts_some (l : List Cel) (A : Option Addr) (ka : Nat) (a b : Cel) (w : World) (kA : AwakeAt w) (hl : Sl w (.slice A l.length ka) l) (h1 : shortB l.length 60 = true) (hc : chkI l = 0) (h0 : orI 0 (memE l a) (memE l b) = 0) (p : List Cel) (hp : pathC l a b = some p) :
    Calls Tryz.prog 3 #[.slice A l.length ka, cellV a, cellV b] w fun e w' => e = .returned (.bool true) ∧ Below w.heap.size w w' := by
  have la := short_len h1 (by omega)
  have l60 : l.length ≤ 60 := by have := (chkI_zero.1 hc).1; omega
  have hone := one_is l a b
  obtain ⟨ma, mb⟩ := one_zero h0
  have kPa := fun (v : Value) W (h : Sl W v l) => path_ok l v a b W h hc ma mb
  have kPr := fun (v : Value) W (h : Sl W v l) => refPath_ok l v a b W h hc ma mb
  have hpl : p.length ≤ 4096 := by
    have h := hp
    unfold pathC at h
    cases hs : stC l b a with
    | none => rw [hs] at h; cases h
    | some n =>
      rw [hs] at h
      obtain rfl := Option.some.inj h
      have h2 := pathC_len mb hs
      rw [(pathC_ok hs).len]
      omega
  rw [hp] at kPa kPr
  obtain ⟨ax, ay, az⟩ := a
  obtain ⟨bx, by_, bz⟩ := b
  obtain ⟨W0, hW0⟩ : ∃ W, W = (w.alloc (.cells #[.int .i64 ax, .int .i64 ay, .int .i64 az] 24)).alloc (.cells #[.int .i64 bx, .int .i64 by_, .int .i64 bz] 24) := ⟨_, rfl⟩
  have hX : Below w.heap.size w W0 := by subst hW0; exact ((Below.refl _ _).alloc (Nat.le_refl _) _).alloc (by simp) _
  have hCa : Boxed3 W0 w.heap.size (ax, ay, az) := by subst hW0; exact (Below.heap_alloc _ _ _ (by simp)).trans (World.alloc_heap_new w _)
  have hCb : Boxed3 W0 (w.heap.size + 1) (bx, by_, bz) := by
    subst hW0
    have h := World.alloc_heap_new (w.alloc (.cells #[.int .i64 ax, .int .i64 ay, .int .i64 az] 24)) (.cells #[.int .i64 bx, .int .i64 by_, .int .i64 bz] 24)
    rw [World.size_alloc] at h
    exact h
  have hs0 : w.heap.size + 2 ≤ W0.heap.size := by subst hW0; simp
  unfold cellV
  dsimp only
  have kS : ∀ W, Below W0.heap.size W0 W → (W.cell? ⟨w.heap.size, 0, none⟩ = some (.int .i64 ax) ∧ W.cell? ⟨w.heap.size, 1, none⟩ = some (.int .i64 ay) ∧ W.cell? ⟨w.heap.size, 2, none⟩ = some (.int .i64 az)) ∧ W.cell? ⟨w.heap.size + 1, 0, none⟩ = some (.int .i64 bx) ∧ W.cell? ⟨w.heap.size + 1, 1, none⟩ = some (.int .i64 by_) ∧ W.cell? ⟨w.heap.size + 1, 2, none⟩ = some (.int .i64 bz) := fun W h =>
    ⟨(show Boxed3 W w.heap.size (ax, ay, az) from (h.block _ (by omega)).trans hCa).cell, (show Boxed3 W (w.heap.size + 1) (bx, by_, bz) from (h.block _ (by omega)).trans hCb).cell⟩
  have hl0 := hl.below hX
  have k1 := fun W => short_true h1 A ka W
  have kP := fun W (h : Below W0.heap.size W0 W) => Parts_ok l _ W (hl0.below h) hc
  have kH := fun W (h : Below W0.heap.size W0 W) => shellG_ok l _ W (hl0.below h) hc
  have kW := fun W (h : Below W0.heap.size W0 W) => kPa _ W (hl0.below h)
  have kC := fun W (h : Below W0.heap.size W0 W) => refCheckG l _ W (hl0.below h) (by unfold maxLen; omega)
  rw [hc] at kC
  have kPR := fun W (h : Below W0.heap.size W0 W) => refParts_ok l _ W (hl0.below h) hc
  have kHR := fun W (h : Below W0.heap.size W0 W) => refShell_ok l _ W (hl0.below h) hc
  have kA1 := fun W => refCheckCellG ax ay az W
  have kA2 := fun W (h : Below W0.heap.size W0 W) => has_ok l _ ax ay az W (hl0.below h) (by omega)
  have kB1 := fun W => refCheckCellG bx by_ bz W
  have kB2 := fun W (h : Below W0.heap.size W0 W) => has_ok l _ bx by_ bz W (hl0.below h) (by omega)
  obtain ⟨za, hza⟩ : ∃ z, decide ((ax, ay, az) ∈ l) = z := ⟨_, rfl⟩
  obtain ⟨zb, hzb⟩ : ∃ z, decide ((bx, by_, bz) ∈ l) = z := ⟨_, rfl⟩
  rw [hza] at kA2
  rw [hzb] at kB2
  have eA : (if !za then (10 : Int) else 0) = if (ax, ay, az) ∈ l then 0 else 10 := by rw [← hza]; by_cases h : (ax, ay, az) ∈ l <;> simp [h]
  have eB : (if !zb then (10 : Int) else 0) = if (bx, by_, bz) ∈ l then 0 else 10 := by rw [← hzb]; by_cases h : (bx, by_, bz) ∈ l <;> simp [h]
  have kA3 := fun W => when_ok (!za) 10 W
  have kB3 := fun W => when_ok (!zb) 10 W
  rw [eA] at kA3
  rw [eB] at kB3
  have kF := fun blk W k0 k1 k2 k3 => firstL4 (if badC (ax, ay, az) then 3 else 0) (if (ax, ay, az) ∈ l then 0 else 10) (if badC (bx, by_, bz) then 3 else 0) (if (bx, by_, bz) ∈ l then 0 else 10) blk 4 W k0 k1 k2 k3
  rw [hone] at kF
  generalize (if badC (ax, ay, az) then (3 : Int) else 0) = r1 at kA1 kF
  generalize (if (ax, ay, az) ∈ l then (0 : Int) else 10) = r2 at kA3 kF
  generalize (if badC (bx, by_, bz) then (3 : Int) else 0) = r3 at kB1 kF
  generalize (if (bx, by_, bz) ∈ l then (0 : Int) else 10) = r4 at kB3 kF
  unfold cellV at kW
  dsimp only at kW
  rw [h0] at kF
  have kR := fun W (h : Below W0.heap.size W0 W) => kPr _ W (hl0.below h)
  unfold cellV at kR
  dsimp only at kR
  have kV := fun W => when_ok false 7 W
  have psz := fun p hp => Nat.le_trans (partK_size l p hp) (show l.length ≤ 4096 by omega)
  have pln : (partK NearR l l.length).length ≤ 4096 := by
    have h := partK_le l l.length
    omega
  have fln : (l.filter fun c => !insB l c).length ≤ 4096 := Nat.le_trans (List.length_filter_le _ _) (by omega)
  clear hone eA eB hza hzb kPa hl hl0 h1 la hCa hCb hs0 hc
  clear kPr ma mb hp
  go_enter Tryz.func3, Tryz.ntmps3
  go_upto_region 1 with fail
  rw [← hW0]
  clear hW0
  have k0 := kA W0 hX
  go_wp2_with fail
  refine k0.mono ?_
  rintro e w1 ⟨rfl, hY⟩
  clear k0
  go_wp2_with fail
  refine (k1 _).mono ?_
  rintro e w' ⟨rfl, hw'⟩
  subst hw'
  have q := kP _ hY
  go_wp2_with fail
  refine q.mono ?_
  rintro e w2 ⟨v2, rfl, ho2, hB⟩
  replace hY := hY.trans (hB.mono hY.size)
  have s2 := ho2.sl
  clear ho2
  clear hB q
  obtain ⟨A2, c2, rfl⟩ := s2.form
  have q := kH _ hY
  go_wp2_with fail
  refine q.mono ?_
  rintro e w3 ⟨v3, rfl, s3, hB⟩
  replace hY := hY.trans (hB.mono hY.size)
  replace s2 := s2.below hB
  obtain ⟨⟨a0, a1, a2⟩, b0, b1, b2⟩ := kS _ hY
  clear hB q
  obtain ⟨A3, c3, rfl⟩ := s3.form
  have q := kW _ hY
  go_wp2_with fail
  refine q.mono ?_
  rintro e w4 ⟨h4, hB⟩
  obtain ⟨h4, -⟩ | ⟨p', v4, h4, rfl, ho4⟩ := h4
  · cases h4
  obtain rfl : p = p' := Option.some.inj h4
  have s4 := ho4.sl
  obtain ⟨A4, c4, rfl⟩ := s4.form
  replace hY := hY.trans (hB.mono hY.size)
  replace s2 := s2.below hB
  replace s3 := s3.below hB
  clear hB q a0 a1 a2 b0 b1 b2 ho4 h4
  have q := kC _ hY
  go_wp2_with fail
  refine q.mono ?_
  rintro e w5 ⟨rfl, hB⟩
  replace hY := hY.trans (hB.mono hY.size)
  replace s2 := s2.below hB
  replace s3 := s3.below hB
  replace s4 := s4.below hB
  clear hB q
  have q := kPR _ hY
  go_wp2_with fail
  refine q.mono ?_
  rintro e w6 ⟨v6, rfl, ho6, hB⟩
  replace hY := hY.trans (hB.mono hY.size)
  replace s2 := s2.below hB
  replace s3 := s3.below hB
  replace s4 := s4.below hB
  have s6 := ho6.sl
  clear ho6
  clear hB q
  obtain ⟨A6, c6, rfl⟩ := s6.form
  have q := lists_same _ _ _ _ s2 s6 pln psz
  go_wp2_with fail
  refine q.mono ?_
  rintro e w7 ⟨rfl, hB⟩
  replace hY := hY.trans (hB.mono hY.size)
  replace s3 := s3.below hB
  replace s4 := s4.below hB
  clear s2 s6
  clear hB q
  have q := kHR _ hY
  go_wp2_with fail
  refine q.mono ?_
  rintro e w8 ⟨v8, rfl, ho8, hB⟩
  replace hY := hY.trans (hB.mono hY.size)
  replace s3 := s3.below hB
  replace s4 := s4.below hB
  have s8 := ho8.sl
  clear ho8
  clear hB q
  obtain ⟨A8, c8, rfl⟩ := s8.form
  have q := cells_same _ _ _ _ s3 s8 fln
  go_wp2_with fail
  refine q.mono ?_
  rintro e w9 ⟨rfl, hB⟩
  replace hY := hY.trans (hB.mono hY.size)
  replace s4 := s4.below hB
  clear s3 s8
  clear hB q
  have hS0 := kS _ (hY.trans (Below.refl _ _).drew)
  replace hY : Below W0.heap.size W0 w9.drew := hY.trans (Below.refl _ _).drew
  replace s4 := s4.below (Below.refl w9.heap.size w9).drew
  go_wp2_with fail
  go_region_held3 (fun W => (W.cell? ⟨w.heap.size, 0, none⟩ = some (.int .i64 ax) ∧ W.cell? ⟨w.heap.size, 1, none⟩ = some (.int .i64 ay) ∧ W.cell? ⟨w.heap.size, 2, none⟩ = some (.int .i64 az)) ∧ W.cell? ⟨w.heap.size + 1, 0, none⟩ = some (.int .i64 bx) ∧ W.cell? ⟨w.heap.size + 1, 1, none⟩ = some (.int .i64 by_) ∧ W.cell? ⟨w.heap.size + 1, 2, none⟩ = some (.int .i64 bz)) (first | exact hS0 | exact hS1 | exact kS _ (hY.alloc hY.size _) | go_keep) (first
    | (go_at_call 16; first
        | (with_reducible refine (kA1 _).mono ?_; rintro e w10 ⟨rfl, hB⟩; replace hY := hY.trans (hB.mono hY.size); have hS1 := kS _ hY; replace s4 := s4.below hB; clear hB)
        | (with_reducible refine (kB1 _).mono ?_; rintro e w11 ⟨rfl, hB⟩; replace hY := hY.trans (hB.mono hY.size); have hS1 := kS _ hY; replace s4 := s4.below hB; clear hB))
    | (go_at_call 18; first
        | (with_reducible refine (kA2 _ hY).mono ?_; rintro e w12 ⟨rfl, hB⟩; replace hY := hY.trans (hB.mono hY.size); have hS1 := kS _ hY; replace s4 := s4.below hB; clear hB)
        | (with_reducible refine (kB2 _ hY).mono ?_; rintro e w13 ⟨rfl, hB⟩; replace hY := hY.trans (hB.mono hY.size); have hS1 := kS _ hY; replace s4 := s4.below hB; clear hB))
    | (go_at_call 17; first
        | (with_reducible refine (kA3 _).mono ?_; rintro e w14 ⟨rfl, hw14⟩; obtain rfl := hw14)
        | (with_reducible refine (kB3 _).mono ?_; rintro e w15 ⟨rfl, hw15⟩; obtain rfl := hw15))
    | (go_at_call 15; refine (kF _ _ (by go_simp) (by go_simp) (by go_simp) (by go_simp)).mono ?_; rintro e w16 ⟨rfl, hw16⟩; obtain rfl := hw16))
  rename_i hHeld
  clear hHeld hS1 hS0
  replace hY := hY.alloc hY.size (.cells #[.int .i64 r1, .int .i64 r2, .int .i64 r3, .int .i64 r4] 3)
  replace s4 := s4.below ((Below.refl _ _).alloc (Nat.le_refl _) (.cells #[.int .i64 r1, .int .i64 r2, .int .i64 r3, .int .i64 r4] 3))
  generalize w15.alloc (.cells #[.int .i64 r1, .int .i64 r2, .int .i64 r3, .int .i64 r4] 3) = w16 at hY s4 ⊢
  obtain ⟨⟨a0, a1, a2⟩, b0, b1, b2⟩ := kS _ hY
  have q := kR _ hY
  go_wp2_with fail
  refine q.mono ?_
  rintro e w17 ⟨v17, rfl, ho17, hB⟩
  replace hY := hY.trans (hB.mono hY.size)
  replace s4 := s4.below hB
  have s17 : Sl w17 v17 p := ho17.sl
  obtain ⟨A17, c17, rfl⟩ := s17.form
  clear hB q a0 a1 a2 b0 b1 b2 ho17
  have q2 := cells_same _ _ _ _ s4 s17 hpl
  go_wp2_with fail
  refine (kV _).mono ?_
  rintro e w' ⟨rfl, hw'⟩
  subst hw'
  go_wp2_with fail
  refine q2.mono ?_
  rintro e w18 ⟨rfl, hB⟩
  replace hY := hY.trans (hB.mono hY.size)
  go_wp2
  go_ret
  exact ⟨rfl, hX.trans (hY.mono hX.size)⟩
theorem gparts_all (l : List Cel) (v : Value) (a b : Cel) (w : World) (hl : Sl w v l) (kA : AwakeAt w) :
    Calls Tryz.prog 3 #[v, cellV a, cellV b] w fun e w' => e = .returned (.bool true) ∧ Below w.heap.size w w' := by
  obtain ⟨A, ka, rfl⟩ := hl.form
  cases h1 : shortB l.length 60 with
  | false => exact gparts_out l A ka a b w kA h1
  | true =>
    by_cases hc : chkI l = 0
    · by_cases h0 : orI 0 (memE l a) (memE l b) = 0
      · cases hp : pathC l a b with
        | none => exact gparts_none l A ka a b w kA hl h1 hc h0 hp
        | some p => exact gparts_some l A ka a b w kA hl h1 hc h0 p hp
      · exact gparts_one l A ka a b w kA hl h1 hc h0
    · exact gparts_bad l A ka a b w kA hl h1 _ rfl hc
end Go.Proofs
