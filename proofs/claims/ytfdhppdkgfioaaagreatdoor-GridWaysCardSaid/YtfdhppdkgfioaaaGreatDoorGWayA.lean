import Derived.Test.YtfdhppdkgfioaaaGreatDoorPthC
import Derived.Test.YtfdhppdkgfioaaaGreatDoorBlock
import Derived.Test.YtfdhppdkgfioaaaGreatDoorGrpJ
import Derived.Test.YtfdhppdkgfioaaaGreatDoorPthG
import Derived.Test.YtfdhppdkgfioaaaGreatDoorShrinkR
import Derived.Test.YtfdhppdkgfioaaaGreatDoorCheckG
import Derived.Test.YtfdhppdkgfioaaaGreatDoorAwkAt
import Derived.Test.YtfdhppdkgfioaaaGreatDoorHeldF
import Derived.Test.YtfdhppdkgfioaaaGreatDoorPthA
import Derived.BigRegion
import Derived.Deep.CutRange
import Derived.Deep.RegionHeld3
section
/- GridWays: what is asked of a path, of the parts and of the box, told without the program. -/
namespace Go.Proofs
open Go.RowKit
set_option maxHeartbeats 4000000
/-- What the law asks of a path. -/
structure WayOk (l : List Cel) (a b : Cel) (p : List Cel) (n : Nat) : Prop where
  len : p.length = n + 1
  first : p[0]? = some a
  last : p[n]? = some b
  far : distI a b ≤ n
  few : n + 1 ≤ l.length
  mem : ∀ d ∈ p, d ∈ l
  next : ∀ (i : Nat) (d e : Cel), p[i]? = some d → p[i + 1]? = some e → distI d e = 1
  once : p.Nodup
theorem way_ok {l : List Cel} {a b : Cel} {n : Nat} (hb : b ∈ l) (h : stC l b a = some n) : WayOk l a b (pathF nearL (stC l b) n a) n := by
  have hp := pathC_ok h
  refine ⟨hp.len, hp.first, ?_, ?_, pathC_len hb h, pathC_mem hb h, fun i d e hd he => near_iff.1 (hp.next i d e hd he), pathC_nodup h⟩
  · exact hp.end_ (S := (· ∈ l)) fun _ _ h => stC_iff.1 h
  · rw [dist_symm]
    exact stC_far h
theorem part_fact {l : List Cel} (hc : chkI l = 0) {p : List Cel} (hp : p ∈ partK NearR l l.length) : p ≠ [] ∧ chkI p = 0 ∧ p.length ≤ l.length ∧ ∀ a b, a ∈ p → b ∈ l → (b ∈ p ↔ ∃ n, stC l b a = some n) := by
  obtain ⟨hlen, hnear, hup⟩ := chkI_zero.1 hc
  obtain ⟨c, hcl, rfl⟩ := partK_is _ p hp
  have hcp : c ∈ partC NearR l c := (partC_mem hcl c).2 ⟨0, rfl⟩
  have hml : ∀ d ∈ partC NearR l c, d ∈ l := fun d hd => (partK_all nearR_sym d).1 (List.mem_flatten.2 ⟨_, hp, hd⟩)
  have hnl := nodup_len (partC_nodup (up_nodup hup) c) hml
  refine ⟨fun e => (by rw [e] at hcp; cases hcp), chkI_zero.2 ⟨by omega, fun d hd => hnear d (hml d hd), partC_up hup _ c⟩, hnl, fun a b ha hbl => ?_⟩
  rw [part_both nearR_sym hcl ha, stC_reach]
  have hal := hml a ha
  exact ⟨fun h => h.symm nearR_sym hal, fun h => h.symm nearR_sym hbl⟩
theorem parts_sum {l : List Cel} (hc : chkI l = 0) : (partK NearR l l.length).flatten.length = l.length := partK_len nearR_sym (up_nodup (chkI_zero.1 hc).2.2)
theorem take_sum {α : Type} (P : List (List α)) {k : Nat} {p : List α} (h : P[k]? = some p) : (P.take (k + 1)).flatten.length = (P.take k).flatten.length + p.length := by
  obtain ⟨h1, h2⟩ := List.getElem?_eq_some_iff.1 h
  rw [List.take_succ_eq_append_getElem h1, h2]
  simp
theorem take_sum_le {α : Type} (P : List (List α)) (k : Nat) : (P.take k).flatten.length ≤ P.flatten.length := by
  have e : P.flatten = (P.take k).flatten ++ (P.drop k).flatten := by rw [← List.flatten_append, List.take_append_drop]
  rw [e, List.length_append]
  omega
theorem bnd_has : ∀ (l : List Cel) (B : Cel × Cel) (c : Cel), (c ∈ l ∨ InB B.1 B.2 c) → InB (l.foldl bndS B).1 (l.foldl bndS B).2 c
  | [], _, c, h => by
    rcases h with h | h
    · cases h
    · exact h
  | x :: l, B, c, h => by
    refine bnd_has l (bndS B x) c ?_
    rcases h with h | h
    · rcases List.mem_cons.1 h with rfl | h
      · right
        unfold bndS InB
        dsimp only
        omega
      · exact .inl h
    · right
      unfold bndS InB at *
      dsimp only
      omega
theorem box_way {l : List Cel} {h a b : Cel} (hh : l[0]? = some h) (hc : chkI l = 0) (hv : volB l ≤ 512) (ha : a ∈ l) (hb : b ∈ l) :
    Near (bndK h l l.length).1 1000 ∧ Near (bndK h l l.length).2 1000 ∧ Wide (bndK h l l.length) ∧ sizeB (bndK h l l.length) ≤ 4096 ∧ chkI (boxL (bndK h l l.length)) = 0 ∧ a ∈ boxL (bndK h l l.length) ∧ b ∈ boxL (bndK h l l.length) ∧
      ∃ p, pathC (boxL (bndK h l l.length)) a b = some p ∧ (p.length : Int) = distI a b + 1 := by
  obtain ⟨hlen, hnear, hup⟩ := chkI_zero.1 hc
  cases l with
  | nil => cases hh
  | cons x u =>
    obtain rfl : x = h := by simpa using hh
    have h1 : bndK x (x :: u) (x :: u).length = (x :: u).foldl bndS (x, x) := by unfold bndK; rw [List.take_length]
    have hv' : sizeB (bndK x (x :: u) (x :: u).length) ≤ 512 := hv
    rw [h1] at hv' ⊢
    have hn := bnd_near (x :: u) (x, x) ⟨hnear x (List.mem_cons_self ..), hnear x (List.mem_cons_self ..)⟩ hnear
    have hin := fun c hc => bnd_has (x :: u) (x, x) c (.inl hc)
    generalize (x :: u).foldl bndS (x, x) = B at hn hin hv'
    have hm : ∀ c, c ∈ boxL B ↔ InB B.1 B.2 c := fun c => mem_boxL B c
    have hx := hin x (List.mem_cons_self ..)
    have hw : Wide B := by unfold InB at hx; unfold Wide; omega
    have hl := len_boxL B hw
    have e : (fun c => c ∈ boxL B) = InB B.1 B.2 := funext fun c => propext (hm c)
    have hd := box_dist (hin b hb) (hin a ha)
    rw [← e] at hd
    have hs := stC_iff.2 hd
    refine ⟨hn.1, hn.2, hw, by omega, chkI_zero.2 ⟨by omega, fun c hc => ?_, up_boxL B⟩, (hm a).2 (hin a ha), (hm b).2 (hin b hb), _, by unfold pathC; rw [hs]; rfl, ?_⟩
    · have h2 := (hm c).1 hc
      unfold InB at h2
      unfold Near at *
      omega
    · rw [(pathC_ok hs).len, dist_symm a b]
      have : 0 ≤ distI b a := by unfold distI; omega
      omega
end Go.Proofs
end

section
/- GridWays: paths, parts and the box of a set. -/
namespace Go.Proofs
open Go.RowKit
set_option maxHeartbeats 16000000
set_option maxRecDepth 1000000
theorem Sl.row_of {w : World} {A : Option Addr} {n cap : Nat} {l : List Cel} (h : Sl w (.slice A n cap) l) (h0 : 0 < l.length) : ∃ b o, A = some ⟨b, o, none⟩ ∧ b < w.heap.size ∧ RowAt w b o l := by
  rcases h with ⟨_, rfl⟩ | ⟨a, cap', e, h⟩
  · exact absurd h0 (Nat.lt_irrefl 0)
  · injection e with e1 e2 _
    obtain ⟨s, hb, hr⟩ := h (fun e => by rw [e] at h0; exact absurd h0 (Nat.lt_irrefl 0))
    obtain ⟨b, o, sp⟩ := a
    obtain rfl : sp = none := s
    exact ⟨b, o, e1, hb, hr⟩
theorem gways_out1 (l : List Cel) (A : Option Addr) (ka : Nat) (pa pb : Int) (w : World) (kA : AwakeAt w) (_hl : Sl w (.slice A l.length ka) l) (_hn : l.length ≤ maxLen) (e0 : (((l.length : Nat) : Int) == 0) = true) :
    Calls Tryz.prog 4 #[.slice A l.length ka, .agg #[.int .u8 pa, .int .u8 pb]] w fun e w' => e = .returned (.bool true) ∧ Below w.heap.size w w' := by
  obtain ⟨W0, hW0⟩ : ∃ W, W = w.alloc (.cells #[.int .u8 pa, .int .u8 pb] 46) := ⟨_, rfl⟩
  have hX : Below w.heap.size w W0 := by subst hW0; exact (Below.refl _ _).alloc (Nat.le_refl _) _
  have hs0 : w.heap.size < W0.heap.size := by subst hW0; simp
  have kS : W0.cell? ⟨w.heap.size, 0, none⟩ = some (.int .u8 pa) ∧ W0.cell? ⟨w.heap.size, 1, none⟩ = some (.int .u8 pb) := by subst hW0; refine ⟨?_, ?_⟩ <;> go_simp
  have kk : ∀ W', Below W0.heap.size W0 W' → W'.cell? ⟨w.heap.size, 0, none⟩ = some (.int .u8 pa) ∧ W'.cell? ⟨w.heap.size, 1, none⟩ = some (.int .u8 pb) := fun W' h => ⟨(h.cell (p := ⟨w.heap.size, 0, none⟩) hs0).trans kS.1, (h.cell (p := ⟨w.heap.size, 1, none⟩) hs0).trans kS.2⟩
  clear kS kk hs0
  go_enter Tryz.func4, Tryz.ntmps4
  go_upto_region 1 with fail
  rw [← hW0]
  clear hW0
  have k0 := kA W0 hX
  go_wp2_with fail
  refine k0.mono ?_
  rintro e w1 ⟨rfl, hY⟩
  clear k0
  have k2 := kA _ (hX.trans (hY.mono hX.size))
  go_wp2_with fail
  refine k2.mono ?_
  rintro e w2 ⟨rfl, hB2⟩
  go_wp2
  go_ret
  exact ⟨rfl, hX.trans ((hY.trans (hB2.mono hY.size)).mono hX.size)⟩
theorem gways_out2 (l : List Cel) (A : Option Addr) (ka : Nat) (pa pb : Int) (w : World) (kA : AwakeAt w) (hl : Sl w (.slice A l.length ka) l) (hn : l.length ≤ maxLen) (e0 : (((l.length : Nat) : Int) == 0) = false) (hf : fewB 40 512 l = false) :
    Calls Tryz.prog 4 #[.slice A l.length ka, .agg #[.int .u8 pa, .int .u8 pb]] w fun e w' => e = .returned (.bool true) ∧ Below w.heap.size w w' := by
  obtain ⟨W0, hW0⟩ : ∃ W, W = w.alloc (.cells #[.int .u8 pa, .int .u8 pb] 46) := ⟨_, rfl⟩
  have hX : Below w.heap.size w W0 := by subst hW0; exact (Below.refl _ _).alloc (Nat.le_refl _) _
  have hs0 : w.heap.size < W0.heap.size := by subst hW0; simp
  have kS : W0.cell? ⟨w.heap.size, 0, none⟩ = some (.int .u8 pa) ∧ W0.cell? ⟨w.heap.size, 1, none⟩ = some (.int .u8 pb) := by subst hW0; refine ⟨?_, ?_⟩ <;> go_simp
  have kk : ∀ W', Below W0.heap.size W0 W' → W'.cell? ⟨w.heap.size, 0, none⟩ = some (.int .u8 pa) ∧ W'.cell? ⟨w.heap.size, 1, none⟩ = some (.int .u8 pb) := fun W' h => ⟨(h.cell (p := ⟨w.heap.size, 0, none⟩) hs0).trans kS.1, (h.cell (p := ⟨w.heap.size, 1, none⟩) hs0).trans kS.2⟩
  have kF := fun W (h : Below W0.heap.size W0 W) => few_ok l _ 40 512 W (hl.below (hX.trans (h.mono hX.size))) hn (by omega)
  rw [hf] at kF
  clear kS kk hs0 hl hn hf
  go_enter Tryz.func4, Tryz.ntmps4
  go_upto_region 1 with fail
  rw [← hW0]
  clear hW0
  have k0 := kA W0 hX
  go_wp2_with fail
  refine k0.mono ?_
  rintro e w1 ⟨rfl, hY⟩
  clear k0
  have q := kF _ hY
  go_wp2_with fail
  refine q.mono ?_
  rintro e w3 ⟨rfl, hB⟩
  replace hY := hY.trans (hB.mono hY.size)
  clear hB q kF
  have k2 := kA _ (hX.trans (hY.mono hX.size))
  go_wp2_with fail
  refine k2.mono ?_
  rintro e w2 ⟨rfl, hB2⟩
  go_wp2
  go_ret
  exact ⟨rfl, hX.trans ((hY.trans (hB2.mono hY.size)).mono hX.size)⟩
def lensK (P : List (List Cel)) (k : Nat) : Nat := (P.take k).flatten.length
theorem lensK_zero (P : List (List Cel)) : lensK P 0 = 0 := rfl
theorem lensK_succ {P : List (List Cel)} {k : Nat} {p : List Cel} (h : P[k]? = some p) : lensK P (k + 1) = lensK P k + p.length := take_sum P h
theorem lensK_le (P : List (List Cel)) (k : Nat) : lensK P k ≤ P.flatten.length := take_sum_le P k
theorem lensK_all (P : List (List Cel)) : lensK P P.length = P.flatten.length := by unfold lensK; rw [List.take_length]
theorem two_new (W : World) (a b : Cel) : Boxed3 ((W.alloc (.cells #[.int .i64 a.1, .int .i64 a.2.1, .int .i64 a.2.2] 24)).alloc (.cells #[.int .i64 b.1, .int .i64 b.2.1, .int .i64 b.2.2] 24)).drew W.heap.size a ∧
    Boxed3 ((W.alloc (.cells #[.int .i64 a.1, .int .i64 a.2.1, .int .i64 a.2.2] 24)).alloc (.cells #[.int .i64 b.1, .int .i64 b.2.1, .int .i64 b.2.2] 24)).drew (W.heap.size + 1) b ∧
    Below W.heap.size W ((W.alloc (.cells #[.int .i64 a.1, .int .i64 a.2.1, .int .i64 a.2.2] 24)).alloc (.cells #[.int .i64 b.1, .int .i64 b.2.1, .int .i64 b.2.2] 24)).drew := by
  refine ⟨(Below.heap_alloc _ _ _ (by simp)).trans (World.alloc_heap_new W _), ?_, (((Below.refl _ _).alloc (Nat.le_refl _) _).alloc (by simp) _).drew⟩
  have h := World.alloc_heap_new (W.alloc (.cells #[.int .i64 a.1, .int .i64 a.2.1, .int .i64 a.2.2] 24)) (.cells #[.int .i64 b.1, .int .i64 b.2.1, .int .i64 b.2.2] 24)
  rw [World.size_alloc] at h
  exact h
theorem gways_none (l : List Cel) (A : Option Addr) (ka : Nat) (pa pb : Int) (w : World) (kA : AwakeAt w) (hl : Sl w (.slice A l.length ka) l) (hn : l.length ≤ maxLen) (e0 : (((l.length : Nat) : Int) == 0) = false) (hf : fewB 40 512 l = true) (i j : Nat) (ax ay az bx by_ bz : Int) (ha : l[i]? = some (ax, ay, az)) (hb : l[j]? = some (bx, by_, bz)) (wi : Int.tmod pa l.length = i) (wj : Int.tmod pb l.length = j) (hpa : 0 ≤ pa ∧ pa ≤ 255) (hpb : 0 ≤ pb ∧ pb ≤ 255) (hs : stC l (bx, by_, bz) (ax, ay, az) = none) :
    Calls Tryz.prog 4 #[.slice A l.length ka, .agg #[.int .u8 pa, .int .u8 pb]] w fun e w' => e = .returned (.bool true) ∧ Below w.heap.size w w' := by
  obtain ⟨W0, hW0⟩ : ∃ W, W = w.alloc (.cells #[.int .u8 pa, .int .u8 pb] 46) := ⟨_, rfl⟩
  have hX : Below w.heap.size w W0 := by subst hW0; exact (Below.refl _ _).alloc (Nat.le_refl _) _
  have hs0 : w.heap.size < W0.heap.size := by subst hW0; simp
  have kS : W0.cell? ⟨w.heap.size, 0, none⟩ = some (.int .u8 pa) ∧ W0.cell? ⟨w.heap.size, 1, none⟩ = some (.int .u8 pb) := by subst hW0; refine ⟨?_, ?_⟩ <;> go_simp
  have kk : ∀ W', Below W0.heap.size W0 W' → W'.cell? ⟨w.heap.size, 0, none⟩ = some (.int .u8 pa) ∧ W'.cell? ⟨w.heap.size, 1, none⟩ = some (.int .u8 pb) := fun W' h => ⟨(h.cell (p := ⟨w.heap.size, 0, none⟩) hs0).trans kS.1, (h.cell (p := ⟨w.heap.size, 1, none⟩) hs0).trans kS.2⟩
  have kF := fun W (h : Below W0.heap.size W0 W) => few_ok l _ 40 512 W (hl.below (hX.trans (h.mono hX.size))) hn (by omega)
  rw [hf] at kF
  have hf2 := hf
  unfold fewB at hf2
  simp only [Bool.and_eq_true, decide_eq_true_eq] at hf2
  obtain ⟨l40, hc, hv⟩ := hf2
  have hne := e0
  rw [beq_eq_false_iff_ne] at e0
  have hin : i < l.length := (List.getElem?_eq_some_iff.1 ha).1
  have hjn : j < l.length := (List.getElem?_eq_some_iff.1 hb).1
  have i0 : (0 : Int) ≤ i := by omega
  have i1 : (i : Int) < l.length := by omega
  have j0 : (0 : Int) ≤ j := by omega
  have j1 : (j : Int) < l.length := by omega
  have ma := List.mem_of_getElem? ha
  have mb := List.mem_of_getElem? hb
  have hl0 := hl.below hX
  obtain ⟨ga, oa, rfl, hga, hR⟩ := hl.row_of (by omega)
  have hR0 := hR.below hX hga
  have hga0 : ga < W0.heap.size := Nat.lt_of_lt_of_le hga hX.size
  have kA1 := fun W (h : Below W0.heap.size W0 W) => kA W (hX.trans (h.mono hX.size))
  have kP := fun (v : Value) W (h : Sl W v l) => path_ok l v (ax, ay, az) (bx, by_, bz) W h hc ma mb
  have kP2 := fun (v : Value) W (h : Sl W v l) => path_ok l v (bx, by_, bz) (ax, ay, az) W h hc mb ma
  have hp1 : pathC l (ax, ay, az) (bx, by_, bz) = none := by unfold pathC; rw [hs]; rfl
  have hp2 : pathC l (bx, by_, bz) (ax, ay, az) = none := by unfold pathC; rw [← stC_backs ma mb, hs]; rfl
  rw [hp1] at kP
  rw [hp2] at kP2
  have kQ := fun (v : Value) W (h : Sl W v l) => Parts_ok l v W h hc
  have hPf := fun p hp => part_fact hc (p := p) hp
  have hPs := parts_sum hc
  have hPl := partK_le l l.length
  generalize partK NearR l l.length = PP at kQ hPf hPs hPl
  clear hl hn hf kS hR hga
  go_enter Tryz.func4, Tryz.ntmps4
  go_upto_region 1 with fail
  rw [← hW0]
  clear hW0
  have k0 := kA W0 hX
  go_wp2_with fail
  refine k0.mono ?_
  rintro e w1 ⟨rfl, hY⟩
  clear k0
  have q := kF _ hY
  go_wp2_with fail
  refine q.mono ?_
  rintro e w3 ⟨rfl, hB⟩
  replace hY := hY.trans (hB.mono hY.size)
  clear hB q kF
  have hlx := hl0.below hY
  obtain ⟨u0, u1⟩ := kk _ hY
  have hRx := hR0.below hY hga0
  obtain ⟨c0, c1, c2⟩ := hRx _ _ ha
  obtain ⟨d0, d1, d2⟩ := hRx _ _ hb
  have hlt1 : w.heap.size < w3.heap.size := Nat.lt_of_lt_of_le hs0 hY.size
  have hlt2 : ga < w3.heap.size := Nat.lt_of_lt_of_le hga0 hY.size
  have hq1 := Nat.ne_of_lt hlt1
  have hq2 := Nat.ne_of_lt hlt2
  go_upto_region 3 with fail
  go_cut [5, 6] from 36 to 53 (fun v5 v6 wx => ∃ g5 g6, v5 = .pointer (some ⟨g5, 0, none⟩) ∧ v6 = .pointer (some ⟨g6, 0, none⟩) ∧ Boxed3 wx g5 (ax, ay, az) ∧ Boxed3 wx g6 (bx, by_, bz) ∧ Below w3.heap.size w3 wx)
  case first =>
    go_region
    all_goals go_wp2_with fail
    all_goals go_meet
    all_goals (case rel => first
      | (obtain ⟨h1, h2, h3⟩ := two_new w3 (ax, ay, az) (bx, by_, bz); exact ⟨_, _, rfl, rfl, h1, h2, h3⟩)
      | (obtain ⟨h1, h2, h3⟩ := two_new w3 (bx, by_, bz) (ax, ay, az); exact ⟨_, _, rfl, rfl, h2, h1, h3⟩))
  case rest =>
    obtain ⟨g5, g6, rfl, rfl, hC5, hC6, hB⟩ := hcut
    replace hY := hY.trans (hB.mono hY.size)
    replace hlx := hlx.below hB
    clear u0 u1 hRx c0 c1 c2 d0 d1 d2 hlt1 hlt2 hq1 hq2 hB hR0 hga0 kk hs0 ha hb wi wj hpa hpb i0 i1 j0 j1 hin hjn
    obtain ⟨c0, c1, c2⟩ := hC5.cell
    obtain ⟨d0, d1, d2⟩ := hC6.cell
    have q := kP _ _ hlx
    unfold cellV at q
    dsimp only at q
    go_wp2_with fail
    refine q.mono ?_
    rintro e v1 ⟨⟨-, rfl⟩ | ⟨p, v, h, -⟩, hB⟩
    case inr => cases h
    clear q c0 c1 c2 d0 d1 d2
    replace hY := hY.trans (hB.mono hY.size)
    replace hlx := hlx.below hB
    have hD5 : Boxed3 v1 g5 (ax, ay, az) := (hB.block _ (Array.getElem?_eq_some_iff.1 hC5).1).trans hC5
    have hD6 : Boxed3 v1 g6 (bx, by_, bz) := (hB.block _ (Array.getElem?_eq_some_iff.1 hC6).1).trans hC6
    clear hC5 hC6 hB
    obtain ⟨c0, c1, c2⟩ := hD5.cell
    obtain ⟨d0, d1, d2⟩ := hD6.cell
    have q := kP2 _ _ hlx
    unfold cellV at q
    dsimp only at q
    go_wp2_with fail
    refine q.mono ?_
    rintro e v2 ⟨⟨-, rfl⟩ | ⟨p, v, h, -⟩, hB⟩
    case inr => cases h
    clear q c0 c1 c2 d0 d1 d2
    replace hY := hY.trans (hB.mono hY.size)
    replace hlx := hlx.below hB
    have hC5 : Boxed3 v2 g5 (ax, ay, az) := (hB.block _ (Array.getElem?_eq_some_iff.1 hD5).1).trans hD5
    have hC6 : Boxed3 v2 g6 (bx, by_, bz) := (hB.block _ (Array.getElem?_eq_some_iff.1 hD6).1).trans hD6
    clear hD5 hD6 hB
    have q := kQ _ _ hlx
    go_wp2_with fail
    refine q.mono ?_
    rintro e v3 ⟨vP, rfl, hoP, hB⟩
    clear q
    replace hY := hY.trans (hB.mono hY.size)
    replace hlx := hlx.below hB
    have hD5 : Boxed3 v3 g5 (ax, ay, az) := (hB.block _ (Array.getElem?_eq_some_iff.1 hC5).1).trans hC5
    have hD6 : Boxed3 v3 g6 (bx, by_, bz) := (hB.block _ (Array.getElem?_eq_some_iff.1 hC6).1).trans hC6
    clear hC5 hC6 hB
    have hLP := hoP.sl
    obtain ⟨AP, kp, rfl⟩ := hLP.form
    clear hoP kP kP2 kQ
    go_wp2_with fail
    go_loopw [13, 97] (fun s i wr => ∃ k : Nat, k ≤ PP.length ∧ i = .int .i64 k ∧ s = .int .i64 (lensK PP k : Nat) ∧ Below v3.heap.size v3 wr) (fun _ i _ => PP.length - (intOf i).toNat)
    case atStart => exact ⟨0, Nat.zero_le _, rfl, rfl, Below.refl _ _⟩
    case round =>
      obtain ⟨k, hk, rfl, rfl, hZ⟩ := hrel
      rename World => v4
      rcases Nat.lt_or_eq_of_le hk with hkn | rfl
      · obtain ⟨p, hpk⟩ : ∃ p, PP[k]? = some p := ⟨_, List.getElem?_eq_getElem hkn⟩
        obtain ⟨bp, op, Ap, cp, rfl, -, hbp, rp, sp⟩ := (hLP.below hZ).cells hpk
        obtain ⟨p0, pc, pl, pm⟩ := hPf p (List.mem_of_getElem? hpk)
        have pmb := pm (ax, ay, az) (bx, by_, bz)
        have hk0 : (0 : Int) ≤ k := by omega
        have hk1 : (k : Int) < PP.length := by omega
        have wk := wrapS (n := (k : Int) + 1) (by omega)
        have ps := lensK_succ hpk
        have psl := lensK_le PP (k + 1)
        have wsum := wrapS (n := ((lensK PP k : Nat) : Int) + (p.length : Int)) (by omega)
        have pz : (((p.length : Nat) : Int) == 0) = false := by rw [beq_eq_false_iff_ne]; intro h; exact p0 (List.length_eq_zero_iff.1 (by omega))
        have kCk := fun W (h : Below v4.heap.size v4 W) => refCheckG p _ W (sp.below h) (by unfold maxLen; omega)
        rw [pc] at kCk
        have kHa := fun W (h : Below v4.heap.size v4 W) => has_ok p _ ax ay az W (sp.below h) (by omega)
        have kHb := fun W (h : Below v4.heap.size v4 W) => has_ok p _ bx by_ bz W (sp.below h) (by omega)
        have HK := Lib.hid (show k + 1 ≤ PP.length from hkn)
        have HM := Lib.hid (show PP.length - (k + 1) < PP.length - k by omega)
        have hb4 : ∀ W, Below v4.heap.size v4 W → Boxed3 W g5 (ax, ay, az) ∧ Boxed3 W g6 (bx, by_, bz) := fun W h => by
          have h2 := hZ.trans (h.mono hZ.size)
          exact ⟨(h2.block _ (Array.getElem?_eq_some_iff.1 hD5).1).trans hD5, (h2.block _ (Array.getElem?_eq_some_iff.1 hD6).1).trans hD6⟩
        clear pc pm hpk p0 pl psl sp
        go_wp2_with fail
        have q := kCk _ (Below.refl _ _)
        refine q.mono ?_
        rintro e v5 ⟨rfl, hB⟩
        clear q kCk
        have hT := hB
        by_cases hA : (ax, ay, az) ∈ p
        · have hBp : decide ((bx, by_, bz) ∈ p) = false := by
            have h := pmb hA mb
            rw [hs] at h
            exact decide_eq_false fun h2 => by obtain ⟨n, hn⟩ := h.1 h2; cases hn
          rw [decide_eq_true hA] at kHa
          rw [hBp] at kHb
          clear hBp hA pmb
          obtain ⟨hE5, hE6⟩ := hb4 _ hT
          obtain ⟨c0, c1, c2⟩ := hE5.cell
          have q := kHa _ hT
          clear kHa
          go_wp2_with fail
          refine q.mono ?_
          rintro e v6 ⟨rfl, hB⟩
          replace hT := hT.trans (hB.mono hT.size)
          clear q hB c0 c1 c2 hE5 hE6
          obtain ⟨hE5, hE6⟩ := hb4 _ hT
          obtain ⟨c0, c1, c2⟩ := hE6.cell
          have q := kHb _ hT
          clear kHb
          go_wp2_with fail
          refine q.mono ?_
          rintro e v7 ⟨rfl, hB⟩
          replace hT := hT.trans (hB.mono hT.size)
          clear q hB c0 c1 c2 hE5 hE6
          go_wp2_with fail
          go_roundw
          case rel => exact ⟨k + 1, HK.out, by simp, by rw [ps]; simp, hZ.trans (hT.mono hZ.size)⟩
          case measure => exact HM.out
        · rw [decide_eq_false hA] at kHa
          clear hA pmb kHb
          obtain ⟨hE5, hE6⟩ := hb4 _ hT
          obtain ⟨c0, c1, c2⟩ := hE5.cell
          have q := kHa _ hT
          clear kHa
          go_wp2_with fail
          refine q.mono ?_
          rintro e v6 ⟨rfl, hB⟩
          replace hT := hT.trans (hB.mono hT.size)
          clear q hB c0 c1 c2 hE5 hE6
          go_wp2_with fail
          go_roundw
          case rel => exact ⟨k + 1, HK.out, by simp, by rw [ps]; simp, hZ.trans (hT.mono hZ.size)⟩
          case measure => exact HM.out
      · rw [lensK_all, hPs]
        have hll : (((l.length : Nat) : Int) != ((l.length : Nat) : Int)) = false := by simp
        go_wp2
        go_ret
        exact ⟨rfl, hX.trans ((hY.trans (hZ.mono hY.size)).mono hX.size)⟩
theorem gways_some (l : List Cel) (A : Option Addr) (ka : Nat) (pa pb : Int) (w : World) (kA : AwakeAt w) (hl : Sl w (.slice A l.length ka) l) (hn : l.length ≤ maxLen) (e0 : (((l.length : Nat) : Int) == 0) = false) (hf : fewB 40 512 l = true) (i j : Nat) (ax ay az bx by_ bz : Int) (ha : l[i]? = some (ax, ay, az)) (hb : l[j]? = some (bx, by_, bz)) (wi : Int.tmod pa l.length = i) (wj : Int.tmod pb l.length = j) (hpa : 0 ≤ pa ∧ pa ≤ 255) (hpb : 0 ≤ pb ∧ pb ≤ 255) (n : Nat) (hs : stC l (bx, by_, bz) (ax, ay, az) = some n) :
    Calls Tryz.prog 4 #[.slice A l.length ka, .agg #[.int .u8 pa, .int .u8 pb]] w fun e w' => e = .returned (.bool true) ∧ Below w.heap.size w w' := by
  obtain ⟨W0, hW0⟩ : ∃ W, W = w.alloc (.cells #[.int .u8 pa, .int .u8 pb] 46) := ⟨_, rfl⟩
  have hX : Below w.heap.size w W0 := by subst hW0; exact (Below.refl _ _).alloc (Nat.le_refl _) _
  have hs0 : w.heap.size < W0.heap.size := by subst hW0; simp
  have kS : W0.cell? ⟨w.heap.size, 0, none⟩ = some (.int .u8 pa) ∧ W0.cell? ⟨w.heap.size, 1, none⟩ = some (.int .u8 pb) := by subst hW0; refine ⟨?_, ?_⟩ <;> go_simp
  have kk : ∀ W', Below W0.heap.size W0 W' → W'.cell? ⟨w.heap.size, 0, none⟩ = some (.int .u8 pa) ∧ W'.cell? ⟨w.heap.size, 1, none⟩ = some (.int .u8 pb) := fun W' h => ⟨(h.cell (p := ⟨w.heap.size, 0, none⟩) hs0).trans kS.1, (h.cell (p := ⟨w.heap.size, 1, none⟩) hs0).trans kS.2⟩
  have kF := fun W (h : Below W0.heap.size W0 W) => few_ok l _ 40 512 W (hl.below (hX.trans (h.mono hX.size))) hn (by omega)
  rw [hf] at kF
  have hf2 := hf
  unfold fewB at hf2
  simp only [Bool.and_eq_true, decide_eq_true_eq] at hf2
  obtain ⟨l40, hc, hv⟩ := hf2
  have hne := e0
  rw [beq_eq_false_iff_ne] at e0
  have hin : i < l.length := (List.getElem?_eq_some_iff.1 ha).1
  have hjn : j < l.length := (List.getElem?_eq_some_iff.1 hb).1
  have i0 : (0 : Int) ≤ i := by omega
  have i1 : (i : Int) < l.length := by omega
  have j0 : (0 : Int) ≤ j := by omega
  have j1 : (j : Int) < l.length := by omega
  have ma := List.mem_of_getElem? ha
  have mb := List.mem_of_getElem? hb
  have hl0 := hl.below hX
  obtain ⟨ga, oa, rfl, hga, hR⟩ := hl.row_of (by omega)
  have hR0 := hR.below hX hga
  have hga0 : ga < W0.heap.size := Nat.lt_of_lt_of_le hga hX.size
  have kA1 := fun W (h : Below W0.heap.size W0 W) => kA W (hX.trans (h.mono hX.size))
  have kP := fun (v : Value) W (h : Sl W v l) => path_ok l v (ax, ay, az) (bx, by_, bz) W h hc ma mb
  have kP2 := fun (v : Value) W (h : Sl W v l) => path_ok l v (bx, by_, bz) (ax, ay, az) W h hc mb ma
  have hs2 : stC l (ax, ay, az) (bx, by_, bz) = some n := by rw [← stC_backs ma mb, hs]
  have hw := way_ok mb hs
  have hw2 := way_ok ma hs2
  have hp1 : pathC l (ax, ay, az) (bx, by_, bz) = some (pathF nearL (stC l (bx, by_, bz)) n (ax, ay, az)) := by unfold pathC; rw [hs]; rfl
  have hp2 : pathC l (bx, by_, bz) (ax, ay, az) = some (pathF nearL (stC l (ax, ay, az)) n (bx, by_, bz)) := by unfold pathC; rw [hs2]; rfl
  rw [hp1] at kP
  rw [hp2] at kP2
  generalize pathF nearL (stC l (bx, by_, bz)) n (ax, ay, az) = p1 at kP hw
  obtain ⟨L, hL⟩ : ∃ L, p1.length = L := ⟨_, rfl⟩
  generalize pathF nearL (stC l (ax, ay, az)) n (bx, by_, bz) = p2 at kP2 hw2
  have kQ := fun (v : Value) W (h : Sl W v l) => Parts_ok l v W h hc
  have hPf := fun p hp => part_fact hc (p := p) hp
  have hPs := parts_sum hc
  have hPl := partK_le l l.length
  generalize partK NearR l l.length = PP at kQ hPf hPs hPl
  clear hl hn hf kS hR hga
  go_enter Tryz.func4, Tryz.ntmps4
  go_upto_region 1 with fail
  rw [← hW0]
  clear hW0
  have k0 := kA W0 hX
  go_wp2_with fail
  refine k0.mono ?_
  rintro e w1 ⟨rfl, hY⟩
  clear k0
  have q := kF _ hY
  go_wp2_with fail
  refine q.mono ?_
  rintro e w3 ⟨rfl, hB⟩
  replace hY := hY.trans (hB.mono hY.size)
  clear hB q kF
  have hlx := hl0.below hY
  obtain ⟨u0, u1⟩ := kk _ hY
  have hRx := hR0.below hY hga0
  obtain ⟨c0, c1, c2⟩ := hRx _ _ ha
  obtain ⟨d0, d1, d2⟩ := hRx _ _ hb
  have hlt1 : w.heap.size < w3.heap.size := Nat.lt_of_lt_of_le hs0 hY.size
  have hlt2 : ga < w3.heap.size := Nat.lt_of_lt_of_le hga0 hY.size
  have hq1 := Nat.ne_of_lt hlt1
  have hq2 := Nat.ne_of_lt hlt2
  go_upto_region 3 with fail
  go_cut [5, 6] from 36 to 53 (fun v5 v6 wx => ∃ g5 g6, v5 = .pointer (some ⟨g5, 0, none⟩) ∧ v6 = .pointer (some ⟨g6, 0, none⟩) ∧ Boxed3 wx g5 (ax, ay, az) ∧ Boxed3 wx g6 (bx, by_, bz) ∧ Below w3.heap.size w3 wx)
  case first =>
    go_region
    all_goals go_wp2_with fail
    all_goals go_meet
    all_goals (case rel => first
      | (obtain ⟨h1, h2, h3⟩ := two_new w3 (ax, ay, az) (bx, by_, bz); exact ⟨_, _, rfl, rfl, h1, h2, h3⟩)
      | (obtain ⟨h1, h2, h3⟩ := two_new w3 (bx, by_, bz) (ax, ay, az); exact ⟨_, _, rfl, rfl, h2, h1, h3⟩))
  case rest =>
    obtain ⟨g5, g6, rfl, rfl, hC5, hC6, hB⟩ := hcut
    replace hY := hY.trans (hB.mono hY.size)
    replace hlx := hlx.below hB
    clear u0 u1 hRx c0 c1 c2 d0 d1 d2 hlt1 hlt2 hq1 hq2 hB hR0 hga0 kk hs0 ha hb wi wj hpa hpb i0 i1 j0 j1 hin hjn
    obtain ⟨c0, c1, c2⟩ := hC5.cell
    obtain ⟨d0, d1, d2⟩ := hC6.cell
    have q := kP _ _ hlx
    unfold cellV at q
    dsimp only at q
    go_wp2_with fail
    refine q.mono ?_
    rintro e v1 ⟨⟨h, -⟩ | ⟨p, v, h, rfl, ho1⟩, hB⟩
    case inl => cases h
    obtain rfl := Option.some.inj h
    obtain ⟨A1, k1, e1⟩ := ho1.sl.form
    rw [hL] at e1
    subst e1
    have hs1 := ho1.sl
    clear h ho1
    clear q c0 c1 c2 d0 d1 d2
    replace hY := hY.trans (hB.mono hY.size)
    replace hlx := hlx.below hB
    have hD5 : Boxed3 v1 g5 (ax, ay, az) := (hB.block _ (Array.getElem?_eq_some_iff.1 hC5).1).trans hC5
    have hD6 : Boxed3 v1 g6 (bx, by_, bz) := (hB.block _ (Array.getElem?_eq_some_iff.1 hC6).1).trans hC6
    clear hC5 hC6 hB
    obtain ⟨c0, c1, c2⟩ := hD5.cell
    obtain ⟨d0, d1, d2⟩ := hD6.cell
    have q := kP2 _ _ hlx
    unfold cellV at q
    dsimp only at q
    go_wp2_with fail
    refine q.mono ?_
    rintro e v2 ⟨⟨h, -⟩ | ⟨p, v, h, rfl, ho1⟩, hB⟩
    case inl => cases h
    obtain rfl := Option.some.inj h
    obtain ⟨A2, k2, rfl⟩ := ho1.sl.form
    replace hs1 := hs1.below hB
    clear h ho1
    clear q c0 c1 c2 d0 d1 d2
    replace hY := hY.trans (hB.mono hY.size)
    replace hlx := hlx.below hB
    have hC5 : Boxed3 v2 g5 (ax, ay, az) := (hB.block _ (Array.getElem?_eq_some_iff.1 hD5).1).trans hD5
    have hC6 : Boxed3 v2 g6 (bx, by_, bz) := (hB.block _ (Array.getElem?_eq_some_iff.1 hD6).1).trans hD6
    clear hD5 hD6 hB
    have q := kQ _ _ hlx
    go_wp2_with fail
    refine q.mono ?_
    rintro e v3 ⟨vP, rfl, hoP, hB⟩
    clear q
    replace hY := hY.trans (hB.mono hY.size)
    replace hlx := hlx.below hB
    replace hs1 := hs1.below hB
    have hD5 : Boxed3 v3 g5 (ax, ay, az) := (hB.block _ (Array.getElem?_eq_some_iff.1 hC5).1).trans hC5
    have hD6 : Boxed3 v3 g6 (bx, by_, bz) := (hB.block _ (Array.getElem?_eq_some_iff.1 hC6).1).trans hC6
    clear hC5 hC6 hB
    have hLP := hoP.sl
    obtain ⟨AP, kp, rfl⟩ := hLP.form
    clear hoP kP kP2 kQ
    obtain ⟨gp, op1, rfl, hgp, hRp⟩ := hs1.row_of (by rw [hw.len]; omega)
    have hlen : ((L : Int) != ((p2.length : Nat) : Int)) = false := by rw [← hL, hw.len, hw2.len]; simp
    go_wp2_with fail
    go_loopw [13, 97] (fun s i wr => ∃ k : Nat, k ≤ PP.length ∧ i = .int .i64 k ∧ s = .int .i64 (lensK PP k : Nat) ∧ Below v3.heap.size v3 wr) (fun _ i _ => PP.length - (intOf i).toNat)
    case atStart => exact ⟨0, Nat.zero_le _, rfl, rfl, Below.refl _ _⟩
    case round =>
      obtain ⟨k, hk, rfl, rfl, hZ⟩ := hrel
      rename World => v4
      rcases Nat.lt_or_eq_of_le hk with hkn | rfl
      · obtain ⟨p, hpk⟩ : ∃ p, PP[k]? = some p := ⟨_, List.getElem?_eq_getElem hkn⟩
        obtain ⟨bp, op, Ap, cp, rfl, -, hbp, rp, sp⟩ := (hLP.below hZ).cells hpk
        obtain ⟨p0, pc, pl, pm⟩ := hPf p (List.mem_of_getElem? hpk)
        have pmb := pm (ax, ay, az) (bx, by_, bz)
        have hk0 : (0 : Int) ≤ k := by omega
        have hk1 : (k : Int) < PP.length := by omega
        have wk := wrapS (n := (k : Int) + 1) (by omega)
        have ps := lensK_succ hpk
        have psl := lensK_le PP (k + 1)
        have wsum := wrapS (n := ((lensK PP k : Nat) : Int) + (p.length : Int)) (by omega)
        have pz : (((p.length : Nat) : Int) == 0) = false := by rw [beq_eq_false_iff_ne]; intro h; exact p0 (List.length_eq_zero_iff.1 (by omega))
        have kCk := fun W (h : Below v4.heap.size v4 W) => refCheckG p _ W (sp.below h) (by unfold maxLen; omega)
        rw [pc] at kCk
        have kHa := fun W (h : Below v4.heap.size v4 W) => has_ok p _ ax ay az W (sp.below h) (by omega)
        have kHb := fun W (h : Below v4.heap.size v4 W) => has_ok p _ bx by_ bz W (sp.below h) (by omega)
        have HK := Lib.hid (show k + 1 ≤ PP.length from hkn)
        have HM := Lib.hid (show PP.length - (k + 1) < PP.length - k by omega)
        have hb4 : ∀ W, Below v4.heap.size v4 W → Boxed3 W g5 (ax, ay, az) ∧ Boxed3 W g6 (bx, by_, bz) := fun W h => by
          have h2 := hZ.trans (h.mono hZ.size)
          exact ⟨(h2.block _ (Array.getElem?_eq_some_iff.1 hD5).1).trans hD5, (h2.block _ (Array.getElem?_eq_some_iff.1 hD6).1).trans hD6⟩
        clear pc pm hpk p0 pl psl sp
        go_wp2_with fail
        have q := kCk _ (Below.refl _ _)
        refine q.mono ?_
        rintro e v5 ⟨rfl, hB⟩
        clear q kCk
        have hT := hB
        by_cases hA : (ax, ay, az) ∈ p
        · have hBp : decide ((bx, by_, bz) ∈ p) = true := by
            have h := pmb hA mb
            rw [hs] at h
            exact decide_eq_true (h.2 ⟨n, rfl⟩)
          rw [decide_eq_true hA] at kHa
          rw [hBp] at kHb
          clear hBp hA pmb
          obtain ⟨hE5, hE6⟩ := hb4 _ hT
          obtain ⟨c0, c1, c2⟩ := hE5.cell
          have q := kHa _ hT
          clear kHa
          go_wp2_with fail
          refine q.mono ?_
          rintro e v6 ⟨rfl, hB⟩
          replace hT := hT.trans (hB.mono hT.size)
          clear q hB c0 c1 c2 hE5 hE6
          obtain ⟨hE5, hE6⟩ := hb4 _ hT
          obtain ⟨c0, c1, c2⟩ := hE6.cell
          have q := kHb _ hT
          clear kHb
          go_wp2_with fail
          refine q.mono ?_
          rintro e v7 ⟨rfl, hB⟩
          replace hT := hT.trans (hB.mono hT.size)
          clear q hB c0 c1 c2 hE5 hE6
          go_wp2_with fail
          go_roundw
          case rel => exact ⟨k + 1, HK.out, by simp, by rw [ps]; simp, hZ.trans (hT.mono hZ.size)⟩
          case measure => exact HM.out
        · rw [decide_eq_false hA] at kHa
          clear hA pmb kHb
          obtain ⟨hE5, hE6⟩ := hb4 _ hT
          obtain ⟨c0, c1, c2⟩ := hE5.cell
          have q := kHa _ hT
          clear kHa
          go_wp2_with fail
          refine q.mono ?_
          rintro e v6 ⟨rfl, hB⟩
          replace hT := hT.trans (hB.mono hT.size)
          clear q hB c0 c1 c2 hE5 hE6
          go_wp2_with fail
          go_roundw
          case rel => exact ⟨k + 1, HK.out, by simp, by rw [ps]; simp, hZ.trans (hT.mono hZ.size)⟩
          case measure => exact HM.out
      · rw [lensK_all, hPs]
        have hll : (((l.length : Nat) : Int) != ((l.length : Nat) : Int)) = false := by simp
        have hgp4 : gp < v4.heap.size := Nat.lt_of_lt_of_le hgp hZ.size
        have hRp4 := hRp.below hZ hgp
        obtain ⟨s0, s1, s2⟩ := hRp4 0 _ hw.first
        obtain ⟨t0, t1, t2⟩ := hRp4 n _ hw.last
        simp only [Nat.zero_mul, Nat.add_zero] at s0 s1 s2
        have hE5 : Boxed3 v4 g5 (ax, ay, az) := (hZ.block _ (Array.getElem?_eq_some_iff.1 hD5).1).trans hD5
        have hE6 : Boxed3 v4 g6 (bx, by_, bz) := (hZ.block _ (Array.getElem?_eq_some_iff.1 hD6).1).trans hD6
        have l5 := (Array.getElem?_eq_some_iff.1 hE5).1
        have l6 := (Array.getElem?_eq_some_iff.1 hE6).1
        obtain ⟨a0, a1, a2⟩ := hE5.cell
        obtain ⟨b0, b1, b2⟩ := hE6.cell
        have kS : ∀ W, Below v4.heap.size v4 W → (W.cell? ⟨gp, op1, none⟩ = some (.int .i64 ax) ∧ W.cell? ⟨gp, op1 + 1, none⟩ = some (.int .i64 ay) ∧ W.cell? ⟨gp, op1 + 2, none⟩ = some (.int .i64 az)) ∧ (W.cell? ⟨gp, op1 + n * 3, none⟩ = some (.int .i64 bx) ∧ W.cell? ⟨gp, op1 + n * 3 + 1, none⟩ = some (.int .i64 by_) ∧ W.cell? ⟨gp, op1 + n * 3 + 2, none⟩ = some (.int .i64 bz)) ∧ (W.cell? ⟨g5, 0, none⟩ = some (.int .i64 ax) ∧ W.cell? ⟨g5, 1, none⟩ = some (.int .i64 ay) ∧ W.cell? ⟨g5, 2, none⟩ = some (.int .i64 az)) ∧ W.cell? ⟨g6, 0, none⟩ = some (.int .i64 bx) ∧ W.cell? ⟨g6, 1, none⟩ = some (.int .i64 by_) ∧ W.cell? ⟨g6, 2, none⟩ = some (.int .i64 bz) := fun W h =>
          ⟨⟨(h.cell (p := ⟨gp, _, none⟩) hgp4).trans s0, (h.cell (p := ⟨gp, _, none⟩) hgp4).trans s1, (h.cell (p := ⟨gp, _, none⟩) hgp4).trans s2⟩, ⟨(h.cell (p := ⟨gp, _, none⟩) hgp4).trans t0, (h.cell (p := ⟨gp, _, none⟩) hgp4).trans t1, (h.cell (p := ⟨gp, _, none⟩) hgp4).trans t2⟩, ⟨(h.cell (p := ⟨g5, _, none⟩) l5).trans a0, (h.cell (p := ⟨g5, _, none⟩) l5).trans a1, (h.cell (p := ⟨g5, _, none⟩) l5).trans a2⟩, (h.cell (p := ⟨g6, _, none⟩) l6).trans b0, (h.cell (p := ⟨g6, _, none⟩) l6).trans b1, (h.cell (p := ⟨g6, _, none⟩) l6).trans b2⟩
        have hnr := fun c hc2 => ((chkI_zero.1 hc).2.1 c hc2).mono (by omega : (1000 : Int) ≤ 3000)
        have kD := fun W => refDistance_ok (ax, ay, az) (bx, by_, bz) (hnr _ ma) (hnr _ mb) W
        unfold cellV at kD
        dsimp only at kD
        obtain ⟨dd, hdd⟩ : ∃ dd, dd = distI (ax, ay, az) (bx, by_, bz) := ⟨_, rfl⟩
        have hfar := hw.far
        have hwl := hw.len
        have hwf := hw.few
        rw [hL] at hwl
        rw [← hdd] at kD hfar
        have x1 : decide ((n : Int) < dd) = false := decide_eq_false (by omega)
        have x2 : decide (((l.length : Nat) : Int) < (L : Int)) = false := decide_eq_false (by omega)
        have wn := wrapS (n := (L : Int) - 1) (by omega)
        have wn2 : (L : Int) - 1 = n := by omega
        rw [wn2] at wn
        have pz1 : ((L : Int) == 0) = false := by rw [beq_eq_false_iff_ne]; omega
        have n0 : (0 : Int) ≤ n := by omega
        have n1 : (n : Int) < L := by omega
        have n2 : (0 : Int) < L := by omega
        have n3 : 0 < L := by omega
        have x3 : decide (l.length < L) = false := decide_eq_false (by omega)
        have HW := Lib.hid (And.intro hw (And.intro hdd (And.intro hfar (And.intro hwl hwf))))
        clear hw hdd hfar hwl hwf hnr s0 s1 s2 t0 t1 t2 a0 a1 a2 b0 b1 b2 hRp4 hw2
        go_upto_region 23 with fail
        go_cut [169] from 134 to 169 (fun v wx => v = .bool false ∧ Below v4.heap.size v4 wx)
        case first =>
          have hX4 := (Below.refl v4.heap.size v4).drew
          have hS0 := kS _ hX4
          go_region_held3 (fun w' => (w'.cell? ⟨gp, op1, none⟩ = some (.int .i64 ax) ∧ w'.cell? ⟨gp, op1 + 1, none⟩ = some (.int .i64 ay) ∧ w'.cell? ⟨gp, op1 + 2, none⟩ = some (.int .i64 az)) ∧ (w'.cell? ⟨gp, op1 + n * 3, none⟩ = some (.int .i64 bx) ∧ w'.cell? ⟨gp, op1 + n * 3 + 1, none⟩ = some (.int .i64 by_) ∧ w'.cell? ⟨gp, op1 + n * 3 + 2, none⟩ = some (.int .i64 bz)) ∧ (w'.cell? ⟨g5, 0, none⟩ = some (.int .i64 ax) ∧ w'.cell? ⟨g5, 1, none⟩ = some (.int .i64 ay) ∧ w'.cell? ⟨g5, 2, none⟩ = some (.int .i64 az)) ∧ w'.cell? ⟨g6, 0, none⟩ = some (.int .i64 bx) ∧ w'.cell? ⟨g6, 1, none⟩ = some (.int .i64 by_) ∧ w'.cell? ⟨g6, 2, none⟩ = some (.int .i64 bz)) (first | exact hS0 | exact hS1 | go_keep) (first
            | (go_at_call 21; refine (kD _).mono ?_; rintro e w9 ⟨rfl, hB9⟩; have hX9 := hX4.trans (hB9.mono hX4.size); have hS1 := kS _ hX9))
          rename_i hHeld
          clear hHeld
          go_wp2_with fail
          go_meet
          case rel => exact ⟨rfl, hX9⟩
        case rest =>
          obtain ⟨rfl, hT⟩ := hcut
          clear x1 x2 x3 pz1 n0 n1 n2 n3 kS
          have hlx4 := hlx.below hZ
          have hs4 := hs1.below hZ
          rename World => wS
          go_wp2_with fail
          go_loopw [172] (fun i wr => ∃ k : Nat, k ≤ L ∧ i = .int .i64 k ∧ Below v4.heap.size v4 wr) (fun i _ => L - (intOf i).toNat)
          case atStart => exact ⟨0, Nat.zero_le _, rfl, hT⟩
          case round =>
            obtain ⟨k, hk, rfl, hZ2⟩ := hrel
            rename World => v5
            rcases Nat.lt_or_eq_of_le hk with hkn | rfl
            · obtain ⟨⟨cx, cy, cz⟩, hck⟩ : ∃ c, p1[k]? = some c := ⟨_, List.getElem?_eq_getElem (by omega)⟩
              have hcl := HW.out.1.mem _ (List.mem_of_getElem? hck)
              have lp : L ≤ 41 := by have := HW.out.2.2.2.1; have := HW.out.2.2.2.2; omega
              have hk0 : (0 : Int) ≤ k := by omega
              have hk1 : (k : Int) < L := by omega
              have wk := wrapS (n := (k : Int) + 1) (by omega)
              have hgp5 : gp < v5.heap.size := Nat.lt_of_lt_of_le hgp4 hZ2.size
              have hRp5 := (hRp.below hZ hgp).below hZ2 hgp4
              obtain ⟨s0, s1, s2⟩ := hRp5 k _ hck
              have kH := fun W (h : Below v5.heap.size v5 W) => has_ok l _ cx cy cz W ((hlx4.below hZ2).below h) (by omega)
              rw [decide_eq_true hcl] at kH
              have kT := fun W (h : Below v5.heap.size v5 W) => at_in W ((hs4.below hZ2).below h) (by omega) HW.out.1.once hck
              have HK := Lib.hid (show k + 1 ≤ L from hkn)
              have HM := Lib.hid (show L - (k + 1) < L - k by omega)
              have hkk : ((k : Int) != (k : Int)) = false := by simp
              rcases Nat.eq_zero_or_pos k with hkz | hkp
              · have kS : ∀ W, Below v5.heap.size v5 W → W.cell? ⟨gp, op1 + k * 3, none⟩ = some (.int .i64 cx) ∧ W.cell? ⟨gp, op1 + k * 3 + 1, none⟩ = some (.int .i64 cy) ∧ W.cell? ⟨gp, op1 + k * 3 + 2, none⟩ = some (.int .i64 cz) := fun W h => ⟨(h.cell (p := ⟨gp, _, none⟩) hgp5).trans s0, (h.cell (p := ⟨gp, _, none⟩) hgp5).trans s1, (h.cell (p := ⟨gp, _, none⟩) hgp5).trans s2⟩
                have HKZ := Lib.hid hkz
                have hX := (Below.refl v5.heap.size v5).drew
                have hS0 := kS _ (Below.refl v5.heap.size v5)
                clear hRp5 s0 s1 s2 hck hcl hkz hgp5
                go_upto_region 28 with fail
                refine wp_region_held_drew (S := fun V => V.cell? ⟨gp, op1 + k * 3, none⟩ = some (.int .i64 cx) ∧ V.cell? ⟨gp, op1 + k * 3 + 1, none⟩ = some (.int .i64 cy) ∧ V.cell? ⟨gp, op1 + k * 3 + 2, none⟩ = some (.int .i64 cz)) (by kernel_rfl) hS0 (fun hHeld => ?_)
                refine held_yes 0 (some 175) (.slice (some ⟨ga, oa, none⟩) l.length ka) rfl rfl (by kernel_rfl) (by kernel_rfl) (by kernel_rfl) (fun _ _ _ h => h) rfl (fun w' hS => by obtain ⟨t0, t1, t2⟩ := hS; go_simp <;> exact HKZ.out) hHeld ?_
                try simp only [Act.put, List.setIfInBounds_toArray, List.set_cons_zero, List.set_cons_succ]
                refine held_yes 1 (some 176) (.slice (some ⟨gp, op1, none⟩) L k1) rfl rfl (by kernel_rfl) (by kernel_rfl) (by kernel_rfl) (fun _ _ _ h => h) rfl (fun w' hS => by obtain ⟨t0, t1, t2⟩ := hS; go_simp <;> exact HKZ.out) hHeld ?_
                try simp only [Act.put, List.setIfInBounds_toArray, List.set_cons_zero, List.set_cons_succ]
                refine held_yes 2 (some 177) (.int .i64 k) rfl rfl (by kernel_rfl) (by kernel_rfl) (by kernel_rfl) (fun _ _ _ h => h) rfl (fun w' hS => by obtain ⟨t0, t1, t2⟩ := hS; go_simp <;> exact HKZ.out) hHeld ?_
                try simp only [Act.put, List.setIfInBounds_toArray, List.set_cons_zero, List.set_cons_succ]
                refine held_yes 3 (some 178) (.pointer (some ⟨gp, op1 + k * 3, none⟩)) rfl rfl (by kernel_rfl) (by kernel_rfl) (by kernel_rfl) (fun _ _ _ h => h) rfl (fun w' hS => by obtain ⟨t0, t1, t2⟩ := hS; go_simp <;> exact HKZ.out) hHeld ?_
                try simp only [Act.put, List.setIfInBounds_toArray, List.set_cons_zero, List.set_cons_succ]
                refine held_yes 4 (some 179) (.agg #[.int .i64 cx, .int .i64 cy, .int .i64 cz]) rfl rfl (by kernel_rfl) (by kernel_rfl) (by kernel_rfl) (fun _ _ _ h => h) rfl (fun w' hS => by obtain ⟨t0, t1, t2⟩ := hS; go_simp <;> exact HKZ.out) hHeld ?_
                try simp only [Act.put, List.setIfInBounds_toArray, List.set_cons_zero, List.set_cons_succ]
                refine wpAnyH_ready (rs := [5]) (by kernel_rfl) (by simp) ?_
                refine AllReadyH.cons rfl (fun K hK => ?_) AllReadyH.nil
                go_simp
                refine (kH _ hX).mono ?_
                rintro e z5 ⟨rfl, hB⟩
                replace hX := hX.trans (hB.mono hX.size)
                go_wp2_with fail
                refine hK.out _ _ (kS _ hX) (fun hHeld => ?_)
                clear hK K hB
                try simp only [Act.put, List.setIfInBounds_toArray, List.set_cons_zero, List.set_cons_succ]
                refine held_yes 6 (some 181) (.bool false) rfl rfl (by kernel_rfl) (by kernel_rfl) (by kernel_rfl) (fun _ _ _ h => h) rfl (fun w' hS => by obtain ⟨t0, t1, t2⟩ := hS; go_simp <;> exact HKZ.out) hHeld ?_
                try simp only [Act.put, List.setIfInBounds_toArray, List.set_cons_zero, List.set_cons_succ]
                refine held_yes 7 (some 182) (.bool false) rfl rfl (by kernel_rfl) (by kernel_rfl) (by kernel_rfl) (fun _ _ _ h => h) rfl (fun w' hS => by obtain ⟨t0, t1, t2⟩ := hS; go_simp <;> exact HKZ.out) hHeld ?_
                try simp only [Act.put, List.setIfInBounds_toArray, List.set_cons_zero, List.set_cons_succ]
                refine held_yes 8 (some 183) (.int .i64 k) rfl rfl (by kernel_rfl) (by kernel_rfl) (by kernel_rfl) (fun _ _ _ h => h) rfl (fun w' hS => by obtain ⟨t0, t1, t2⟩ := hS; go_simp <;> exact HKZ.out) hHeld ?_
                try simp only [Act.put, List.setIfInBounds_toArray, List.set_cons_zero, List.set_cons_succ]
                refine held_yes 9 (some 184) (.bool false) rfl rfl (by kernel_rfl) (by kernel_rfl) (by kernel_rfl) (fun _ _ _ h => h) rfl (fun w' hS => by obtain ⟨t0, t1, t2⟩ := hS; go_simp <;> exact HKZ.out) hHeld ?_
                try simp only [Act.put, List.setIfInBounds_toArray, List.set_cons_zero, List.set_cons_succ]
                refine held_yes 10 (some 185) (.bool false) rfl rfl (by kernel_rfl) (by kernel_rfl) (by kernel_rfl) (fun _ _ _ h => h) rfl (fun w' hS => by obtain ⟨t0, t1, t2⟩ := hS; go_simp <;> exact HKZ.out) hHeld ?_
                try simp only [Act.put, List.setIfInBounds_toArray, List.set_cons_zero, List.set_cons_succ]
                refine held_no 11 (some 186) rfl rfl (by kernel_rfl) (by kernel_rfl) (by kernel_rfl) (fun _ _ _ h => h) rfl hHeld ?_
                try simp only [Act.put, List.setIfInBounds_toArray, List.set_cons_zero, List.set_cons_succ]
                refine held_no 12 (some 187) rfl rfl (by kernel_rfl) (by kernel_rfl) (by kernel_rfl) (fun _ _ _ h => h) rfl hHeld ?_
                try simp only [Act.put, List.setIfInBounds_toArray, List.set_cons_zero, List.set_cons_succ]
                refine held_no 13 (some 188) rfl rfl (by kernel_rfl) (by kernel_rfl) (by kernel_rfl) (fun _ _ _ h => h) rfl hHeld ?_
                try simp only [Act.put, List.setIfInBounds_toArray, List.set_cons_zero, List.set_cons_succ]
                refine held_no 14 (some 189) rfl rfl (by kernel_rfl) (by kernel_rfl) (by kernel_rfl) (fun _ _ _ h => h) rfl hHeld ?_
                try simp only [Act.put, List.setIfInBounds_toArray, List.set_cons_zero, List.set_cons_succ]
                refine held_no 15 (some 190) rfl rfl (by kernel_rfl) (by kernel_rfl) (by kernel_rfl) (fun _ _ _ h => h) rfl hHeld ?_
                try simp only [Act.put, List.setIfInBounds_toArray, List.set_cons_zero, List.set_cons_succ]
                refine held_no 16 (some 191) rfl rfl (by kernel_rfl) (by kernel_rfl) (by kernel_rfl) (fun _ _ _ h => h) rfl hHeld ?_
                try simp only [Act.put, List.setIfInBounds_toArray, List.set_cons_zero, List.set_cons_succ]
                refine held_no 17 (some 192) rfl rfl (by kernel_rfl) (by kernel_rfl) (by kernel_rfl) (fun _ _ _ h => h) rfl hHeld ?_
                try simp only [Act.put, List.setIfInBounds_toArray, List.set_cons_zero, List.set_cons_succ]
                refine held_no 18 (some 193) rfl rfl (by kernel_rfl) (by kernel_rfl) (by kernel_rfl) (fun _ _ _ h => h) rfl hHeld ?_
                try simp only [Act.put, List.setIfInBounds_toArray, List.set_cons_zero, List.set_cons_succ]
                refine held_no 19 (some 194) rfl rfl (by kernel_rfl) (by kernel_rfl) (by kernel_rfl) (fun _ _ _ h => h) rfl hHeld ?_
                try simp only [Act.put, List.setIfInBounds_toArray, List.set_cons_zero, List.set_cons_succ]
                refine held_no 20 (some 195) rfl rfl (by kernel_rfl) (by kernel_rfl) (by kernel_rfl) (fun _ _ _ h => h) rfl hHeld ?_
                try simp only [Act.put, List.setIfInBounds_toArray, List.set_cons_zero, List.set_cons_succ]
                refine held_no 21 (some 196) rfl rfl (by kernel_rfl) (by kernel_rfl) (by kernel_rfl) (fun _ _ _ h => h) rfl hHeld ?_
                try simp only [Act.put, List.setIfInBounds_toArray, List.set_cons_zero, List.set_cons_succ]
                refine held_yes 22 (some 197) (.bool false) rfl rfl (by kernel_rfl) (by kernel_rfl) (by kernel_rfl) (fun _ _ _ h => h) rfl (fun w' hS => by obtain ⟨t0, t1, t2⟩ := hS; go_simp <;> exact HKZ.out) hHeld ?_
                try simp only [Act.put, List.setIfInBounds_toArray, List.set_cons_zero, List.set_cons_succ]
                refine held_yes 23 (some 198) (.bool false) rfl rfl (by kernel_rfl) (by kernel_rfl) (by kernel_rfl) (fun _ _ _ h => h) rfl (fun w' hS => by obtain ⟨t0, t1, t2⟩ := hS; go_simp <;> exact HKZ.out) hHeld ?_
                try simp only [Act.put, List.setIfInBounds_toArray, List.set_cons_zero, List.set_cons_succ]
                refine held_yes 24 (some 199) (.bool false) rfl rfl (by kernel_rfl) (by kernel_rfl) (by kernel_rfl) (fun _ _ _ h => h) rfl (fun w' hS => by obtain ⟨t0, t1, t2⟩ := hS; go_simp <;> exact HKZ.out) hHeld ?_
                try simp only [Act.put, List.setIfInBounds_toArray, List.set_cons_zero, List.set_cons_succ]
                refine held_yes 25 (some 200) (.slice (some ⟨gp, op1, none⟩) L k1) rfl rfl (by kernel_rfl) (by kernel_rfl) (by kernel_rfl) (fun _ _ _ h => h) rfl (fun w' hS => by obtain ⟨t0, t1, t2⟩ := hS; go_simp <;> exact HKZ.out) hHeld ?_
                try simp only [Act.put, List.setIfInBounds_toArray, List.set_cons_zero, List.set_cons_succ]
                refine held_yes 26 (some 201) (.slice (some ⟨gp, op1, none⟩) L k1) rfl rfl (by kernel_rfl) (by kernel_rfl) (by kernel_rfl) (fun _ _ _ h => h) rfl (fun w' hS => by obtain ⟨t0, t1, t2⟩ := hS; go_simp <;> exact HKZ.out) hHeld ?_
                try simp only [Act.put, List.setIfInBounds_toArray, List.set_cons_zero, List.set_cons_succ]
                refine held_yes 27 (some 202) (.int .i64 k) rfl rfl (by kernel_rfl) (by kernel_rfl) (by kernel_rfl) (fun _ _ _ h => h) rfl (fun w' hS => by obtain ⟨t0, t1, t2⟩ := hS; go_simp <;> exact HKZ.out) hHeld ?_
                try simp only [Act.put, List.setIfInBounds_toArray, List.set_cons_zero, List.set_cons_succ]
                refine held_yes 28 (some 203) (.pointer (some ⟨gp, op1 + k * 3, none⟩)) rfl rfl (by kernel_rfl) (by kernel_rfl) (by kernel_rfl) (fun _ _ _ h => h) rfl (fun w' hS => by obtain ⟨t0, t1, t2⟩ := hS; go_simp <;> exact HKZ.out) hHeld ?_
                try simp only [Act.put, List.setIfInBounds_toArray, List.set_cons_zero, List.set_cons_succ]
                refine held_yes 29 (some 204) (.agg #[.int .i64 cx, .int .i64 cy, .int .i64 cz]) rfl rfl (by kernel_rfl) (by kernel_rfl) (by kernel_rfl) (fun _ _ _ h => h) rfl (fun w' hS => by obtain ⟨t0, t1, t2⟩ := hS; go_simp <;> exact HKZ.out) hHeld ?_
                try simp only [Act.put, List.setIfInBounds_toArray, List.set_cons_zero, List.set_cons_succ]
                refine held_yes 31 (some 206) (.int .i64 k) rfl rfl (by kernel_rfl) (by kernel_rfl) (by kernel_rfl) (fun _ _ _ h => h) rfl (fun w' hS => by obtain ⟨t0, t1, t2⟩ := hS; go_simp <;> exact HKZ.out) hHeld ?_
                try simp only [Act.put, List.setIfInBounds_toArray, List.set_cons_zero, List.set_cons_succ]
                refine wpAnyH_ready (rs := [30]) (by kernel_rfl) (by simp) ?_
                refine AllReadyH.cons rfl (fun K hK => ?_) AllReadyH.nil
                go_simp
                refine (kT _ hX).mono ?_
                rintro e z30 ⟨rfl, hB⟩
                replace hX := hX.trans (hB.mono hX.size)
                go_wp2_with fail
                refine hK.out _ _ (kS _ hX) (fun hHeld => ?_)
                clear hK K hB
                try simp only [Act.put, List.setIfInBounds_toArray, List.set_cons_zero, List.set_cons_succ]
                refine held_yes 32 (some 207) (.bool false) rfl rfl (by kernel_rfl) (by kernel_rfl) (by kernel_rfl) (fun _ _ _ h => h) rfl (fun w' hS => by obtain ⟨t0, t1, t2⟩ := hS; go_simp <;> exact HKZ.out) hHeld ?_
                try simp only [Act.put, List.setIfInBounds_toArray, List.set_cons_zero, List.set_cons_succ]
                refine held_yes 33 (some 208) (.bool false) rfl rfl (by kernel_rfl) (by kernel_rfl) (by kernel_rfl) (fun _ _ _ h => h) rfl (fun w' hS => by obtain ⟨t0, t1, t2⟩ := hS; go_simp <;> exact HKZ.out) hHeld ?_
                try simp only [Act.put, List.setIfInBounds_toArray, List.set_cons_zero, List.set_cons_succ]
                refine wpAnyH_done (by kernel_rfl) ?_ _
                clear hHeld hS0 kS
                go_wp2_with fail
                go_roundw
                case rel => exact ⟨k + 1, HK.out, by simp, hZ2.trans (hX.mono hZ2.size)⟩
                case measure => exact HM.out
              · obtain ⟨j, hj⟩ : ∃ j, k = j + 1 := ⟨k - 1, by omega⟩
                obtain ⟨⟨px, py, pz⟩, hpj⟩ : ∃ c, p1[j]? = some c := ⟨_, List.getElem?_eq_getElem (by omega)⟩
                obtain ⟨t0, t1, t2⟩ := hRp5 j _ hpj
                have kS : ∀ W, Below v5.heap.size v5 W → (W.cell? ⟨gp, op1 + k * 3, none⟩ = some (.int .i64 cx) ∧ W.cell? ⟨gp, op1 + k * 3 + 1, none⟩ = some (.int .i64 cy) ∧ W.cell? ⟨gp, op1 + k * 3 + 2, none⟩ = some (.int .i64 cz)) ∧ W.cell? ⟨gp, op1 + j * 3, none⟩ = some (.int .i64 px) ∧ W.cell? ⟨gp, op1 + j * 3 + 1, none⟩ = some (.int .i64 py) ∧ W.cell? ⟨gp, op1 + j * 3 + 2, none⟩ = some (.int .i64 pz) := fun W h => ⟨⟨(h.cell (p := ⟨gp, _, none⟩) hgp5).trans s0, (h.cell (p := ⟨gp, _, none⟩) hgp5).trans s1, (h.cell (p := ⟨gp, _, none⟩) hgp5).trans s2⟩, (h.cell (p := ⟨gp, _, none⟩) hgp5).trans t0, (h.cell (p := ⟨gp, _, none⟩) hgp5).trans t1, (h.cell (p := ⟨gp, _, none⟩) hgp5).trans t2⟩
                have hnr := fun c hc2 => ((chkI_zero.1 hc).2.1 c hc2).mono (by omega : (1000 : Int) ≤ 3000)
                have kE := fun W => refDistance_ok (px, py, pz) (cx, cy, cz) (hnr _ (HW.out.1.mem _ (List.mem_of_getElem? hpj))) (hnr _ hcl) W
                rw [HW.out.1.next j _ _ hpj (by rw [← hj]; exact hck)] at kE
                unfold cellV at kE
                dsimp only at kE
                have hgt : (0 : Int) < (k : Int) := by omega
                have wj := wrapS (n := (k : Int) - 1) (by omega)
                have wj2 : (k : Int) - 1 = j := by omega
                rw [wj2] at wj
                have j0 : (0 : Int) ≤ j := by omega
                have j1 : (j : Int) < L := by omega
                have hX := (Below.refl v5.heap.size v5).drew
                have hS0 := kS _ hX
                clear hRp5 s0 s1 s2 t0 t1 t2 hck hcl hgp5 hpj hj hnr
                go_upto_region 28 with fail
                go_region_held3 (fun V => (V.cell? ⟨gp, op1 + k * 3, none⟩ = some (.int .i64 cx) ∧ V.cell? ⟨gp, op1 + k * 3 + 1, none⟩ = some (.int .i64 cy) ∧ V.cell? ⟨gp, op1 + k * 3 + 2, none⟩ = some (.int .i64 cz)) ∧ V.cell? ⟨gp, op1 + j * 3, none⟩ = some (.int .i64 px) ∧ V.cell? ⟨gp, op1 + j * 3 + 1, none⟩ = some (.int .i64 py) ∧ V.cell? ⟨gp, op1 + j * 3 + 2, none⟩ = some (.int .i64 pz)) (first | exact hS0 | exact hS1 | exact hS2 | exact hS3 | go_keep) (first
                  | (go_at_call 18; refine (kH _ hX).mono ?_; rintro e w9 ⟨rfl, hB9⟩; have hX1 := hX.trans (hB9.mono hX.size); have hS1 := kS _ hX1)
                  | (go_at_call 21; refine (kE _).mono ?_; rintro e w10 ⟨rfl, hB10⟩; have hX2 := hX1.trans (hB10.mono hX1.size); have hS2 := kS _ hX2)
                  | (go_at_call 22; refine (kT _ hX2).mono ?_; rintro e w11 ⟨rfl, hB11⟩; have hX3 := hX2.trans (hB11.mono hX2.size); have hS3 := kS _ hX3))
                rename_i hHeld
                clear hHeld
                go_wp2_with fail
                go_roundw
                case rel => exact ⟨k + 1, HK.out, by simp, hZ2.trans (hX3.mono hZ2.size)⟩
                case measure => exact HM.out
            · have hlx5 := hlx4.below hZ2
              obtain ⟨hh0, hh⟩ : ∃ h, l[0]? = some h := ⟨_, List.getElem?_eq_getElem (by omega)⟩
              obtain ⟨nb1, nb2, hwd, hsz, hcb, mab, mbb, pw, hpw, hpl⟩ := box_way hh hc hv ma mb
              have kB := Bound_ok l hh0 _ v5 hlx5 hh hc
              generalize bndK hh0 l l.length = O at nb1 nb2 hwd hsz hcb mab mbb hpw kB
              obtain ⟨⟨lx, ly, lz⟩, ⟨ux, uy, uz⟩⟩ := O
              have kC := fun W => checkBox_ok ((lx, ly, lz), (ux, uy, uz)) nb1 nb2 hwd hsz W
              have kBl := fun W => block_ok ((lx, ly, lz), (ux, uy, uz)) nb1 nb2 hwd hsz W
              unfold boxV at kB kC kBl
              dsimp only at kB kC kBl
              have kPw := fun (v : Value) W (h : Sl W v (boxL ((lx, ly, lz), (ux, uy, uz)))) => path_ok _ v (ax, ay, az) (bx, by_, bz) W h hcb mab mbb
              rw [hpw] at kPw
              generalize boxL ((lx, ly, lz), (ux, uy, uz)) = BL at kBl kPw
              unfold cellV at kPw
              dsimp only at kPw
              obtain ⟨-, hdd, -⟩ := HW.out
              rw [← hdd] at hpl
              have hpn : (0 : Int) ≤ pw.length := by omega
              have wpw := wrapS (n := ((pw.length : Nat) : Int) - 1) (by have := HW.out.2.2.1; have := HW.out.2.2.2.1; have := HW.out.2.2.2.2; omega)
              have wpd : ((pw.length : Nat) : Int) - 1 = dd := by omega
              rw [wpd] at wpw
              clear hlx4 hlx5 hs4 hs1 hRp hh hpw hcb mab mbb hwd hsz nb1 nb2 hLP hPf hPs hPl HW hpl wn wn2 hlen hll hdd hgp4 hgp
              go_wp2_with fail
              refine kB.mono ?_
              rintro e v6 ⟨rfl, hB6⟩
              obtain ⟨Wb, hWb⟩ : ∃ W, W = v6.alloc (.cells #[.int .i64 lx, .int .i64 ly, .int .i64 lz, .int .i64 ux, .int .i64 uy, .int .i64 uz] 51) := ⟨_, rfl⟩
              have kb6 : Wb.cell? ⟨v6.heap.size, 0, none⟩ = some (.int .i64 lx) ∧ Wb.cell? ⟨v6.heap.size, 1, none⟩ = some (.int .i64 ly) ∧ Wb.cell? ⟨v6.heap.size, 2, none⟩ = some (.int .i64 lz) ∧ Wb.cell? ⟨v6.heap.size, 3, none⟩ = some (.int .i64 ux) ∧ Wb.cell? ⟨v6.heap.size, 4, none⟩ = some (.int .i64 uy) ∧ Wb.cell? ⟨v6.heap.size, 5, none⟩ = some (.int .i64 uz) := by subst hWb; refine ⟨?_, ?_, ?_, ?_, ?_, ?_⟩ <;> go_simp
              have hzb : v6.heap.size < Wb.heap.size := by subst hWb; simp
              have hX6 := hZ2.trans (hB6.mono hZ2.size)
              have hXb : Below v4.heap.size v4 Wb := by subst hWb; exact hX6.alloc hX6.size _
              have hFb5 := (hXb.block _ l5).trans hE5
              have hFb6 := (hXb.block _ l6).trans hE6
              have l5b : g5 < Wb.heap.size := Nat.lt_of_lt_of_le l5 hXb.size
              have l6b : g6 < Wb.heap.size := Nat.lt_of_lt_of_le l6 hXb.size
              obtain ⟨a0, a1, a2⟩ := (show Boxed3 Wb g5 (ax, ay, az) from hFb5).cell
              obtain ⟨b0, b1, b2⟩ := (show Boxed3 Wb g6 (bx, by_, bz) from hFb6).cell
              obtain ⟨r0, r1, r2, r3, r4, r5⟩ := kb6
              have kG : ∀ W, Below Wb.heap.size Wb W → (W.cell? ⟨v6.heap.size, 0, none⟩ = some (.int .i64 lx) ∧ W.cell? ⟨v6.heap.size, 1, none⟩ = some (.int .i64 ly) ∧ W.cell? ⟨v6.heap.size, 2, none⟩ = some (.int .i64 lz) ∧ W.cell? ⟨v6.heap.size, 3, none⟩ = some (.int .i64 ux) ∧ W.cell? ⟨v6.heap.size, 4, none⟩ = some (.int .i64 uy) ∧ W.cell? ⟨v6.heap.size, 5, none⟩ = some (.int .i64 uz)) ∧ (W.cell? ⟨g5, 0, none⟩ = some (.int .i64 ax) ∧ W.cell? ⟨g5, 1, none⟩ = some (.int .i64 ay) ∧ W.cell? ⟨g5, 2, none⟩ = some (.int .i64 az)) ∧ W.cell? ⟨g6, 0, none⟩ = some (.int .i64 bx) ∧ W.cell? ⟨g6, 1, none⟩ = some (.int .i64 by_) ∧ W.cell? ⟨g6, 2, none⟩ = some (.int .i64 bz) := fun W h =>
                ⟨⟨(h.cell (p := ⟨v6.heap.size, _, none⟩) hzb).trans r0, (h.cell (p := ⟨v6.heap.size, _, none⟩) hzb).trans r1, (h.cell (p := ⟨v6.heap.size, _, none⟩) hzb).trans r2, (h.cell (p := ⟨v6.heap.size, _, none⟩) hzb).trans r3, (h.cell (p := ⟨v6.heap.size, _, none⟩) hzb).trans r4, (h.cell (p := ⟨v6.heap.size, _, none⟩) hzb).trans r5⟩, ⟨(h.cell (p := ⟨g5, _, none⟩) l5b).trans a0, (h.cell (p := ⟨g5, _, none⟩) l5b).trans a1, (h.cell (p := ⟨g5, _, none⟩) l5b).trans a2⟩, (h.cell (p := ⟨g6, _, none⟩) l6b).trans b0, (h.cell (p := ⟨g6, _, none⟩) l6b).trans b1, (h.cell (p := ⟨g6, _, none⟩) l6b).trans b2⟩
              clear r0 r1 r2 r3 r4 r5 a0 a1 a2 b0 b1 b2 hFb5 hFb6 l5b l6b hE5 hE6 hzb
              go_wp2_with fail
              rw [← hWb]
              clear hWb
              refine (kC _).mono ?_
              rintro e v7 ⟨rfl, hQ⟩
              obtain ⟨⟨r0, r1, r2, r3, r4, r5⟩, -⟩ := kG _ hQ
              go_wp2_with fail
              refine (kBl _).mono ?_
              rintro e v8 ⟨vw, rfl, ho, hB8⟩
              replace hQ := hQ.trans (hB8.mono hQ.size)
              clear r0 r1 r2 r3 r4 r5
              obtain ⟨-, ⟨c0, c1, c2⟩, d0, d1, d2⟩ := kG _ hQ
              have q := kPw _ _ ho.sl
              go_wp2_with fail
              refine q.mono ?_
              rintro e v9 ⟨⟨h, -⟩ | ⟨p, v, h, rfl, ho2⟩, hB9⟩
              case inl => cases h
              obtain rfl := Option.some.inj h
              obtain ⟨A9, k9, rfl⟩ := ho2.sl.form
              replace hQ := hQ.trans (hB9.mono hQ.size)
              clear q c0 c1 c2 d0 d1 d2 h
              obtain ⟨-, ⟨c0, c1, c2⟩, d0, d1, d2⟩ := kG _ hQ
              go_wp2_with fail
              refine (kD _).mono ?_
              rintro e v10 ⟨rfl, hB10⟩
              go_wp2
              go_ret
              have g1 := hQ.trans (hB10.mono hQ.size)
              have g2 := hXb.trans (g1.mono hXb.size)
              have g3 := hZ.trans (g2.mono hZ.size)
              have g4 := hY.trans (g3.mono hY.size)
              exact ⟨by simp, hX.trans (g4.mono hX.size)⟩
theorem gways_all (l : List Cel) (v : Value) (pa pb : Int) (w : World) (hst : St w v l) (hpa : 0 ≤ pa ∧ pa ≤ 255) (hpb : 0 ≤ pb ∧ pb ≤ 255) (kA : AwakeAt w) :
    Calls Tryz.prog 4 #[v, .agg #[.int .u8 pa, .int .u8 pb]] w fun e w' => e = .returned (.bool true) ∧ Below w.heap.size w w' := by
  obtain ⟨hl, A, ka, rfl, h1, h2⟩ := hst
  have hn : l.length ≤ maxLen := by unfold maxLen; omega
  cases e0 : (((l.length : Nat) : Int) == 0) with
  | true => exact gways_out1 l A ka pa pb w kA hl hn e0
  | false =>
    cases hf : fewB 40 512 l with
    | false => exact gways_out2 l A ka pa pb w kA hl hn e0 hf
    | true =>
      have e1 := e0
      rw [beq_eq_false_iff_ne] at e1
      have hn1 : 0 < (l.length : Int) := by omega
      obtain ⟨i, hi⟩ : ∃ i : Nat, pa % (l.length : Int) = i := ⟨(pa % (l.length : Int)).toNat, (Int.toNat_of_nonneg (Int.emod_nonneg _ (by omega))).symm⟩
      obtain ⟨j, hj⟩ : ∃ j : Nat, pb % (l.length : Int) = j := ⟨(pb % (l.length : Int)).toNat, (Int.toNat_of_nonneg (Int.emod_nonneg _ (by omega))).symm⟩
      have hin : i < l.length := by have := Int.emod_lt_of_pos pa hn1; omega
      have hjn : j < l.length := by have := Int.emod_lt_of_pos pb hn1; omega
      have wi : Int.tmod pa l.length = i := by rw [Int.tmod_eq_emod_of_nonneg hpa.1, hi]
      have wj : Int.tmod pb l.length = j := by rw [Int.tmod_eq_emod_of_nonneg hpb.1, hj]
      obtain ⟨⟨ax, ay, az⟩, ha⟩ : ∃ a, l[i]? = some a := ⟨_, List.getElem?_eq_getElem hin⟩
      obtain ⟨⟨bx, by_, bz⟩, hb⟩ : ∃ b, l[j]? = some b := ⟨_, List.getElem?_eq_getElem hjn⟩
      cases hs : stC l (bx, by_, bz) (ax, ay, az) with
      | none => exact gways_none l A ka pa pb w kA hl hn e0 hf i j ax ay az bx by_ bz ha hb wi wj hpa hpb hs
      | some n => exact gways_some l A ka pa pb w kA hl hn e0 hf i j ax ay az bx by_ bz ha hb wi wj hpa hpb n hs
end Go.Proofs
end
