import Derived.Test.YtpickbchpnbffaaGreatBitB
import Derived.Test.YtpickbchpnbffaaGreatSetOf
section
/- bite: checkShifts, CheckBite, checkAt, Place. -/
namespace Go.Proofs
open Go.RowKit
set_option maxHeartbeats 16000000
set_option maxRecDepth 1000000
theorem six_cellsB {V : World} {B : Nat} {c0 c1 c2 c3 c4 c5 : Value} {T : TypeId} (h : V.heap[B]? = some (.cells #[c0, c1, c2, c3, c4, c5] T (0, 0))) :
    V.cell? ⟨B, 0, none⟩ = some c0 ∧ V.cell? ⟨B, 1, none⟩ = some c1 ∧ V.cell? ⟨B, 2, none⟩ = some c2 ∧ V.cell? ⟨B, 3, none⟩ = some c3 ∧ V.cell? ⟨B, 4, none⟩ = some c4 ∧ V.cell? ⟨B, 5, none⟩ = some c5 := by
  have zl := fun j => cell_of_row V B j _ _ _ h
  have z0 := zl 0
  have z1 := zl 1
  have z2 := zl 2
  have z3 := zl 3
  have z4 := zl 4
  have z5 := zl 5
  simp at z0 z1 z2 z3 z4 z5
  exact ⟨z0, z1, z2, z3, z4, z5⟩
theorem bitShifts_ok (l p : List Cel) (vl vp : Value) (w : World) (hl : Sl w vl l) (hp : Sl w vp p) (cl : chkI l = 0) (nl : 0 < l.length) (lp : p.length ≤ 256) (hnp : ∀ s ∈ p, Near s 1000) (ht : ∀ s ∈ p, ∀ c ∈ l, Near (shiftC s c) 1000) :
    Calls Tryz.prog 67 #[vl, vp] w fun e w' => e = .returned (.int .i64 0) ∧ Below w.heap.size w w' := by
  obtain ⟨h, hh⟩ : ∃ h, l[0]? = some h := ⟨_, List.getElem?_eq_getElem nl⟩
  have kb := Bound_ok l h vl w hl hh cl
  obtain ⟨n1, n2, -⟩ := box_in hh (chkI_zero.1 cl).2.1
  have hsh := fun s hs => box_shift hh (ht s hs)
  generalize bndK h l l.length = bx at kb n1 n2 hsh
  obtain ⟨⟨lx, ly, lz⟩, ⟨ux, uy, uz⟩⟩ := bx
  unfold boxV at kb
  dsimp only at kb n1 n2 hsh
  obtain ⟨A, cap, rfl⟩ := hl.form
  obtain ⟨P, pcap, rfl⟩ := hp.form
  clear hl cl nl hh ht
  go_enter Tryz.func67, Tryz.ntmps67
  go_wp2_with fail
  refine kb.mono ?_
  rintro e w1 ⟨rfl, hB1⟩
  clear kb
  obtain ⟨W1, hW1⟩ : ∃ W1, W1 = w1.alloc (.cells #[.int .i64 lx, .int .i64 ly, .int .i64 lz, .int .i64 ux, .int .i64 uy, .int .i64 uz] 125) := ⟨_, rfl⟩
  have hX1 : Below w.heap.size w W1 := by rw [hW1]; exact hB1.alloc hB1.size _
  have hrow : W1.heap[w1.heap.size]? = some (.cells #[.int .i64 lx, .int .i64 ly, .int .i64 lz, .int .i64 ux, .int .i64 uy, .int .i64 uz] 125 (0, 0)) := by rw [hW1]; exact heap_alloc_new w1 _
  have hlt : w1.heap.size < W1.heap.size := (Array.getElem?_eq_some_iff.1 hrow).1
  go_wp2
  rw [← hW1]
  clear hW1
  go_loopw [20] (fun i wr => ∃ k : Nat, k ≤ p.length ∧ i = .int .i64 k ∧ Below W1.heap.size W1 wr) (fun i _ => p.length - (intOf i).toNat)
  case atStart => exact ⟨0, Nat.zero_le _, rfl, Below.refl _ _⟩
  case round =>
    obtain ⟨k, hk, rfl, hBel⟩ := hrel
    rename World => w2
    rcases Nat.lt_or_eq_of_le hk with hkn | rfl
    · obtain ⟨b, o, x, y, z, rfl, -, hb, hc, r0, r1, r2⟩ := (hp.below (hX1.trans (hBel.mono hX1.size))).cells hkn
      have hm := List.mem_of_getElem? hc
      obtain ⟨s1, s2⟩ := hsh _ hm
      have hns := hnp _ hm
      obtain ⟨W2, hW2⟩ : ∃ W2, W2 = w2.alloc (.cells #[.int .i64 x, .int .i64 y, .int .i64 z] 34) := ⟨_, rfl⟩
      have hX2 : Below W1.heap.size W1 W2 := by rw [hW2]; exact hBel.alloc hBel.size _
      have hrow2 : W2.heap[w2.heap.size]? = some (.cells #[.int .i64 x, .int .i64 y, .int .i64 z] 34 (0, 0)) := by rw [hW2]; exact heap_alloc_new w2 _
      have hlt2 : w2.heap.size < W2.heap.size := (Array.getElem?_eq_some_iff.1 hrow2).1
      have hs2 := hX2.size
      have kk : ∀ V, Below W2.heap.size W2 V → (V.cell? ⟨w1.heap.size, 0, none⟩ = some (.int .i64 lx) ∧ V.cell? ⟨w1.heap.size, 1, none⟩ = some (.int .i64 ly) ∧ V.cell? ⟨w1.heap.size, 2, none⟩ = some (.int .i64 lz) ∧ V.cell? ⟨w1.heap.size, 3, none⟩ = some (.int .i64 ux) ∧ V.cell? ⟨w1.heap.size, 4, none⟩ = some (.int .i64 uy) ∧ V.cell? ⟨w1.heap.size, 5, none⟩ = some (.int .i64 uz)) ∧ V.cell? ⟨w2.heap.size, 0, none⟩ = some (.int .i64 x) ∧ V.cell? ⟨w2.heap.size, 1, none⟩ = some (.int .i64 y) ∧ V.cell? ⟨w2.heap.size, 2, none⟩ = some (.int .i64 z) := fun V h =>
        ⟨six_cellsB (((h.block _ (by omega)).trans (hX2.block _ hlt)).trans hrow), three_cellsB ((h.block _ hlt2).trans hrow2)⟩
      have hX : Below W2.heap.size W2 W2.drew := (Below.refl _ _).drew
      have hky := kk _ hX
      unfold Near at n1 n2 hns
      dsimp only at n1 n2 hns
      have p1 := fun W => bitPlus_ok lx ly lz x y z W (by omega) (by omega) (by omega)
      have p2 := fun W => bitPlus_ok ux uy uz x y z W (by omega) (by omega) (by omega)
      have q1 := fun W => bitCell_ok (lx + x) (ly + y) (lz + z) W
      have q2 := fun W => bitCell_ok (ux + x) (uy + y) (uz + z) W
      rw [show vecI (lx + x, ly + y, lz + z) 1000 = 0 from vec_near1 s1] at q1
      rw [show vecI (ux + x, uy + y, uz + z) 1000 = 0 from vec_near1 s2] at q2
      have ho := fun blk W => bitFirst2 0 0 blk 2 W
      rw [show orI 0 0 0 = 0 by decide] at ho
      have hi0 : (0 : Int) ≤ k := by omega
      have hi1 : (k : Int) < p.length := by omega
      have wk := wrapS (n := (k : Int) + 1) (by omega)
      clear hp hc hsh hm s1 s2 hnp n1 n2 hns hrow hrow2 hB1
      go_wp2_with fail
      rw [← hW2]
      clear hW2 r0 r1 r2
      refine bitWays (C := fun _ V => Below W2.heap.size W2 V) (G := ?G) ?rest (fun key => ?main)
      case main =>
        go_region_held3 (fun w' => (w'.cell? ⟨w1.heap.size, 0, none⟩ = some (.int .i64 lx) ∧ w'.cell? ⟨w1.heap.size, 1, none⟩ = some (.int .i64 ly) ∧ w'.cell? ⟨w1.heap.size, 2, none⟩ = some (.int .i64 lz) ∧ w'.cell? ⟨w1.heap.size, 3, none⟩ = some (.int .i64 ux) ∧ w'.cell? ⟨w1.heap.size, 4, none⟩ = some (.int .i64 uy) ∧ w'.cell? ⟨w1.heap.size, 5, none⟩ = some (.int .i64 uz)) ∧ w'.cell? ⟨w2.heap.size, 0, none⟩ = some (.int .i64 x) ∧ w'.cell? ⟨w2.heap.size, 1, none⟩ = some (.int .i64 y) ∧ w'.cell? ⟨w2.heap.size, 2, none⟩ = some (.int .i64 z)) (first | exact hky | exact kk _ (hX.alloc hX.size _) | go_keep)
          (first
            | (go_at_call 87; (first | with_reducible refine (p1 _).mono ?_ | with_reducible refine (p2 _).mono ?_); rintro e w3 ⟨rfl, hB⟩; replace hX := hX.trans (hB.mono hX.size); have hky := kk _ hX; clear hB)
            | (go_at_call 84; (first | with_reducible refine (q1 _).mono ?_ | with_reducible refine (q2 _).mono ?_); rintro e w3 ⟨rfl, hB⟩; replace hX := hX.trans (hB.mono hX.size); have hky := kk _ hX; clear hB)
            | (go_at_call 62; refine (ho _ _ ?_ ?_).mono ?_; (go_simp); (go_simp); rintro e w5 ⟨rfl, hw5⟩; replace hX : Below _ _ w5 := (by rw [hw5]; exact hX.alloc hX.size _); have hky := kk _ hX; clear hw5))
        all_goals (rename_i hHeld; clear hHeld; generalize w3.heap.size = Bf; exact key Bf w5 hX)
      case' rest =>
        intro Bf V hV
      clear hX hky kk p1 p2 q1 q2 ho
      go_wp2
      exact ⟨⟨k + 1, hkn, rfl, hX2.trans (hV.mono hX2.size)⟩, by simp [intOf]; omega⟩
    · clear hp hsh hnp
      go_wp2
      go_ret
      exact ⟨rfl, hX1.trans (hBel.mono hX1.size)⟩
/-- A bite's three slices. -/
structure BitS (w : World) (vu vl vp : Value) (u l p : List Cel) : Prop where
  su : Sl w vu u
  sl : Sl w vl l
  sp : Sl w vp p
theorem BitS.below {w w' : World} {vu vl vp : Value} {u l p : List Cel} (h : BitS w vu vl vp u l p) (hb : Below w.heap.size w w') : BitS w' vu vl vp u l p := ⟨h.su.below hb, h.sl.below hb, h.sp.below hb⟩
theorem bitBite_ok (u l p : List Cel) (vu vl vp : Value) (w : World) (h : BitS w vu vl vp u l p) (ok : BiteOk u l p) :
    Calls Tryz.prog 27 #[bitV vu vl vp] w fun e w' => e = .returned (.int .i64 0) ∧ Below w.heap.size w w' := by
  obtain ⟨su, sl, sp⟩ := h
  obtain ⟨U, uc, rfl⟩ := su.form
  obtain ⟨A, ac, rfl⟩ := sl.form
  obtain ⟨P, pc, rfl⟩ := sp.form
  unfold bitV
  obtain ⟨W0, hW⟩ : ∃ W0, W0 = w.alloc (.cells #[.slice U u.length uc, .slice A l.length ac, .slice P p.length pc] 31) := ⟨_, rfl⟩
  have hB0 : Below w.heap.size w W0 := by subst hW; exact (Below.refl _ _).alloc (Nat.le_refl _) _
  have hrow : W0.heap[w.heap.size]? = some (.cells #[.slice U u.length uc, .slice A l.length ac, .slice P p.length pc] 31 (0, 0)) := by subst hW; exact heap_alloc_new w _
  have hlt : w.heap.size < W0.heap.size := (Array.getElem?_eq_some_iff.1 hrow).1
  have kk : ∀ V, Below W0.heap.size W0 V → V.cell? ⟨w.heap.size, 0, none⟩ = some (.slice U u.length uc) ∧ V.cell? ⟨w.heap.size, 1, none⟩ = some (.slice A l.length ac) ∧ V.cell? ⟨w.heap.size, 2, none⟩ = some (.slice P p.length pc) := fun V h => three_cellsB ((h.block _ hlt).trans hrow)
  have hX : Below W0.heap.size W0 W0.drew := (Below.refl _ _).drew
  have hky := kk _ hX
  have q1 := fun W (h : Below W0.heap.size W0 W) => bitSome_ok u _ W (su.below (hB0.trans (h.mono hB0.size))) ok.cu ok.nu
  have q2 := fun W (h : Below W0.heap.size W0 W) => bitSome_ok l _ W (sl.below (hB0.trans (h.mono hB0.size))) ok.cl ok.nl
  have q3 := fun W (h : Below W0.heap.size W0 W) => bitPath_ok p _ W (sp.below (hB0.trans (h.mono hB0.size))) ok.path
  have q4 := fun W (h : Below W0.heap.size W0 W) => bitShifts_ok l p _ _ W (sl.below (hB0.trans (h.mono hB0.size))) (sp.below (hB0.trans (h.mono hB0.size))) ok.cl ok.nl ok.path.len ok.path.near ok.there
  have ho := fun blk W => bitFirst3 0 0 0 blk 3 W
  rw [show orI 0 0 0 = 0 by decide] at ho
  clear su sl sp ok
  go_enter Tryz.func27, Tryz.ntmps27
  go_wp2_with fail
  rw [← hW]
  clear hW
  refine bitWays (C := fun _ V => Below W0.heap.size W0 V) (G := ?G) ?rest (fun key => ?main)
  case main =>
    go_region_held3 (fun w' => w'.cell? ⟨w.heap.size, 0, none⟩ = some (.slice U u.length uc) ∧ w'.cell? ⟨w.heap.size, 1, none⟩ = some (.slice A l.length ac) ∧ w'.cell? ⟨w.heap.size, 2, none⟩ = some (.slice P p.length pc)) (first | exact hky | exact kk _ (hX.alloc hX.size _) | go_keep)
      (first
        | (go_at_call 65; (first | with_reducible refine (q1 _ hX).mono ?_ | with_reducible refine (q2 _ hX).mono ?_); rintro e w3 ⟨rfl, hB⟩; replace hX := hX.trans (hB.mono hX.size); have hky := kk _ hX; clear hB)
        | (go_at_call 66; refine (q3 _ hX).mono ?_; rintro e w3 ⟨rfl, hB⟩; replace hX := hX.trans (hB.mono hX.size); have hky := kk _ hX; clear hB)
        | (go_at_call 62; refine (ho _ _ ?_ ?_ ?_).mono ?_; (go_simp); (go_simp); (go_simp); rintro e w5 ⟨rfl, hw5⟩; replace hX : Below _ _ w5 := (by rw [hw5]; exact hX.alloc hX.size _); have hky := kk _ hX; clear hw5))
    all_goals (rename_i hHeld; clear hHeld; generalize w3.heap.size = Bf; exact key Bf w5 hX)
  case' rest =>
    intro Bf V hV
  clear hX hky q1 q2 q3 ho
  obtain ⟨d0, d1, d2⟩ := kk _ hV
  go_wp2_with (go_at_call 67; refine (q4 _ hV).mono ?_; rintro e w6 ⟨rfl, hB6⟩)
  go_ret
  exact ⟨rfl, (hB0.trans (hV.mono hB0.size)).trans (hB6.mono (hB0.trans (hV.mono hB0.size)).size)⟩
theorem bitAt_ok (u l p : List Cel) (vu vl vp : Value) (k : Nat) (w : World) (h : BitS w vu vl vp u l p) (ok : BiteOk u l p) (hk : k < p.length) :
    Calls Tryz.prog 30 #[bitV vu vl vp, .int .i64 k] w fun e w' => e = .returned (.int .i64 0) ∧ Below w.heap.size w w' := by
  have hlp := ok.path.len
  obtain ⟨U, uc, rfl⟩ := h.su.form
  obtain ⟨A, ac, rfl⟩ := h.sl.form
  obtain ⟨P, pc, rfl⟩ := h.sp.form
  obtain ⟨W0, hW⟩ : ∃ W0, W0 = w.alloc (.cells #[.slice U u.length uc, .slice A l.length ac, .slice P p.length pc] 31) := ⟨_, rfl⟩
  have hB0 : Below w.heap.size w W0 := by subst hW; exact (Below.refl _ _).alloc (Nat.le_refl _) _
  have hrow : W0.heap[w.heap.size]? = some (.cells #[.slice U u.length uc, .slice A l.length ac, .slice P p.length pc] 31 (0, 0)) := by subst hW; exact heap_alloc_new w _
  have hlt : w.heap.size < W0.heap.size := (Array.getElem?_eq_some_iff.1 hrow).1
  have q := bitBite_ok u l p _ _ _ W0 (h.below hB0) ok
  obtain ⟨d0, d1, d2⟩ := three_cellsB hrow
  unfold bitV at q ⊢
  have z0 : ¬ (k : Int) < 0 := by omega
  have z1 : ¬ (p.length : Int) ≤ k := by omega
  clear h ok
  go_enter Tryz.func30, Tryz.ntmps30
  go_wp2_with fail
  rw [← hW]
  clear hW
  refine q.mono ?_
  rintro e w1 ⟨rfl, hB1⟩
  obtain ⟨e0, e1, e2⟩ := three_cellsB ((hB1.block _ hlt).trans hrow)
  clear q hrow d0 d1 d2
  go_wp2
  go_ret
  exact ⟨rfl, hB0.trans (hB1.mono hB0.size)⟩
theorem bitPlaceAt_ok (u l p : List Cel) (vu vl vp : Value) (k : Nat) (s : Cel) (w : World) (h : BitS w vu vl vp u l p) (ok : BiteOk u l p) (hc : p[k]? = some s) :
    Calls Tryz.prog 9 #[bitV vu vl vp, .int .i64 k] w fun e w' => ∃ B, e = .returned (.tuple #[.slice (some ⟨B, 0, none⟩) l.length l.length, .int .i64 0]) ∧ w.heap.size ≤ B ∧ Filled w' B l.length 34 (l.map (shiftC s)) ∧ Below w.heap.size w w' := by
  have hk : k < p.length := (List.getElem?_eq_some_iff.1 hc).1
  have hlp := ok.path.len
  have hnl := (chkI_zero.1 ok.cl).2.1
  have hns := path_at ok.path hc
  obtain ⟨U, uc, rfl⟩ := h.su.form
  obtain ⟨A, ac, rfl⟩ := h.sl.form
  obtain ⟨P, pc, rfl⟩ := h.sp.form
  obtain ⟨W0, hW⟩ : ∃ W0, W0 = w.alloc (.cells #[.slice U u.length uc, .slice A l.length ac, .slice P p.length pc] 31) := ⟨_, rfl⟩
  have hB0 : Below w.heap.size w W0 := by subst hW; exact (Below.refl _ _).alloc (Nat.le_refl _) _
  have hrow : W0.heap[w.heap.size]? = some (.cells #[.slice U u.length uc, .slice A l.length ac, .slice P p.length pc] 31 (0, 0)) := by subst hW; exact heap_alloc_new w _
  have hlt : w.heap.size < W0.heap.size := (Array.getElem?_eq_some_iff.1 hrow).1
  have q := bitAt_ok u l p _ _ _ k W0 (h.below hB0) ok hk
  have q2 := fun W (hW : Below W0.heap.size W0 W) => bitPlace_ok l p (.slice U u.length uc) (.slice A l.length ac) (.slice P p.length pc) k s W ⟨U, u.length, uc, rfl⟩ (h.below (hB0.trans (hW.mono hB0.size))).sl (h.below (hB0.trans (hW.mono hB0.size))).sp (chkI_zero.1 ok.cl).1 hc (by omega) (fun c hcm => (hnl c hcm).mono (by omega)) (hns.mono (by omega))
  obtain ⟨d0, d1, d2⟩ := three_cellsB hrow
  unfold bitV at q q2 ⊢
  clear h ok hnl hns
  go_enter Tryz.func9, Tryz.ntmps9
  go_wp2_with fail
  rw [← hW]
  clear hW
  refine q.mono ?_
  rintro e w1 ⟨rfl, hB1⟩
  obtain ⟨e0, e1, e2⟩ := three_cellsB ((hB1.block _ hlt).trans hrow)
  have q3 := q2 w1 hB1
  clear q q2 hrow d0 d1 d2
  go_wp2_with (go_at_call 31; refine q3.mono ?_; rintro e w2 ⟨B, rfl, hB, hF, hB2⟩)
  go_ret2
  have hX := hB0.trans (hB1.mono hB0.size)
  exact ⟨B, rfl, Nat.le_trans hX.size hB, hF, hX.trans (hB2.mono hX.size)⟩
end Go.Proofs
end

section
/- A store into a set of cells under a fence; all but one block as it was. -/
namespace Go.Proofs
open Go.RowKit Go.Shelf
set_option maxHeartbeats 16000000
set_option maxRecDepth 1000000
attribute [local go_sem] Oper.semAt_some
section
variable {F : Fence} {nF : Nat} {w : World} {ops : Array Oper} {rest : List Oper} {o : Oper} {a : Act} {Q : Exit → Act → World → Prop}
/-- A store into a set of cells, in a round or under a fence. -/
theorem wpListIn_update_set (hg : o.guard = none) (m x v : Operand) (t : TypeId) (hop : o.op = Op.mapUpdate t m x v) (ht : Tryz.prog.underlying t = some (.map 34 4)) (b : Nat) (l : List Cel) (hm : a.eval m = .map (some b)) (hs : CSet w b l) (c : Cel) (hx : a.eval x = cellV c) (hv : a.eval v = .bool true)
    (h : ∀ w', CSet w' b (addC c l) → w.grownBy w' (some b) → wpListIn F nF Tryz.prog ops Q rest (a.put o.dst undef) w') : wpListIn F nF Tryz.prog ops Q (o :: rest) a w := by
  refine wpListIn_plain hg fun K hK => ?_
  obtain ⟨w', h1, h2, h3⟩ := update_cells hs ht c (.bool true)
  rw [putC_set] at h2
  unfold Oper.wpIn
  refine ⟨by simp [Oper.about, hop], ?_⟩
  rw [Oper.semAt_plain F _ _ (by rw [hop]; intro c hc'; cases hc')]
  simp [execOp, hop, hm, hx, hv, h1, Result.andThen]
  exact hK _ _ (h w' h2 h3)
end
/-- All below B but one block is as it was. -/
structure Keep1 (B b : Nat) (W W' : World) : Prop where
  os : W'.os = W.os
  tape : W'.tape = W.tape
  output : W'.output = W.output
  size : W.heap.size ≤ W'.heap.size
  block : ∀ k : Nat, k < B → k ≠ b → W'.heap[k]? = W.heap[k]?
theorem Keep1.refl (B b : Nat) (W : World) : Keep1 B b W W := ⟨rfl, rfl, rfl, Nat.le_refl _, fun _ _ _ => rfl⟩
theorem Keep1.trans {B b : Nat} {X Y Z : World} (h : Keep1 B b X Y) (k : Keep1 B b Y Z) : Keep1 B b X Z := ⟨k.os.trans h.os, k.tape.trans h.tape, k.output.trans h.output, Nat.le_trans h.size k.size, fun i h1 h2 => (k.block i h1 h2).trans (h.block i h1 h2)⟩
theorem Keep1.of_below {B b : Nat} {X Y : World} (h : Below B X Y) : Keep1 B b X Y := ⟨h.os, h.tape, h.output, h.size, fun i h1 _ => h.block i h1⟩
theorem Keep1.of_grown {B b : Nat} {X Y : World} {row : Option Nat} (hg : X.grownBy Y row) (hB : B ≤ X.heap.size) (hr : ∀ k, row = some k → k = b ∨ B ≤ k) : Keep1 B b X Y := ⟨hg.os, hg.tape, hg.output, hg.size, fun i h1 h2 => hg.block i (by omega) fun e => by
  rcases hr i e.symm with h | h
  · exact h2 h
  · omega⟩
theorem sl_keep1 {W W' : World} {B b : Nat} {v : Value} {l : List Cel} {S : List Cel} (hs : CSet W b S) (h : Sl W v l) (hB : W.heap.size ≤ B) (hk : Keep1 B b W W') : Sl W' v l := by
  rcases h with h | ⟨ad, cap, rfl, h⟩
  · exact .inl h
  · refine .inr ⟨ad, cap, rfl, fun h0 => ?_⟩
    obtain ⟨h1, h2, h3⟩ := h h0
    have hne : ad.block ≠ b := fun e => by
      obtain ⟨es, clock, q, _⟩ := hs
      obtain ⟨c, hc⟩ := List.exists_mem_of_ne_nil l h0
      obtain ⟨i, hi⟩ := List.mem_iff_getElem?.1 hc
      have := (h3 i c hi).1
      rw [e] at this
      simp [World.cell?, q] at this
    have hblk := hk.block _ (Nat.lt_of_lt_of_le h2 hB) hne
    refine ⟨h1, Nat.lt_of_lt_of_le h2 hk.size, fun i c hi => ?_⟩
    obtain ⟨r0, r1, r2⟩ := h3 i c hi
    exact ⟨(World.cell?_of_block (a := ⟨ad.block, _, none⟩) hblk).trans r0, (World.cell?_of_block (a := ⟨ad.block, _, none⟩) hblk).trans r1, (World.cell?_of_block (a := ⟨ad.block, _, none⟩) hblk).trans r2⟩
theorem below_alloc (W : World) (o : Obj) : Below W.heap.size W (W.alloc o) := (Below.refl _ _).alloc (Nat.le_refl _) _
end Go.Proofs
end
