/- The reference's Parts. -/
import Derived.Test.YtfdhppdkgfioaaaGreatDoorSetOf
import Derived.Test.YtfdhppdkgfioaaaGreatDoorGrpJ
import Derived.Test.YtfdhppdkgfioaaaGreatDoorRowBl
import Derived.Test.YtfdhppdkgfioaaaGreatDoorPthC
import Derived.Test.YtfdhppdkgfioaaaGreatDoorHeldF
import Derived.Laws.OwnMore
import Derived.Lib.AppendZeros
import Derived.Test.YtfdhppdkgfioaaaGreatDoorInsR
namespace Go.Proofs
open Go.RowKit Go.MapKept
set_option maxHeartbeats 16000000
set_option maxRecDepth 1000000
theorem Below.keep1 {B g : Nat} {w V W : World} (h : Below B w V) (hk : Keep1 V.heap.size g V W) (hg : B ≤ g) (hB : B ≤ V.heap.size) : Below B w W :=
  h.trans ⟨hk.os, hk.tape, hk.output, hk.size, fun k hk2 => hk.block k (by omega) (by omega)⟩
theorem Keep1.set (B g : Nat) (w : World) (v : Value) {i : Nat} : Keep1 B g w (w.setCell ⟨g, i, none⟩ v) :=
  ⟨rfl, rfl, rfl, by simp [World.setCell], fun k _ hk => heap_setCell_other w ⟨g, i, none⟩ k v hk⟩
theorem Own.keepG {w w' : World} {B g : Nat} {v : Value} {l : List Cel} (h : Own w B v l) (hk : Keep1 w.heap.size g w w') (hg : g < B) : Own w' B v l :=
  ⟨h.1, h.2.imp id fun ⟨q, cap, cur, h1, h2, hq, r⟩ => ⟨q, cap, cur, h1, h2, (hk.block q (Array.getElem?_eq_some_iff.1 hq).1 (by omega)).trans hq, r⟩⟩
def boolV (b : List Bool) : List Value := b.map .bool
theorem boolV_set (b : List Bool) (k : Nat) (x : Bool) : (boolV b).set k (.bool x) = boolV (b.set k x) := by simp [boolV]
theorem boolV_at {b : List Bool} {k : Nat} {x : Bool} (h : b[k]? = some x) : (boolV b)[k]? = some (.bool x) := by simp [boolV, h]
/-- The search for one part in the reference: V the world at its beginning, g the cells that have been seen. -/
structure SearchR (V : World) (g : Nat) (l : List Cel) (M : Cel → Prop) (c : Cel) (k : Nat) (dn : Cel → Prop) (bs : List Bool) (vp : Value) (p : List Cel) (W : World) : Prop where
  row : RowBl W 4 g (boolV bs)
  seen : SeenR l bs fun d => M d ∨ d ∈ p
  own : Own W V.heap.size vp p
  pi : PartI NearR (fun d => d ∈ l ∧ ¬ M d) c p k dn
  keep : Keep1 V.heap.size g V W
theorem SearchR.below {V W W' : World} {g k : Nat} {l p : List Cel} {M dn : Cel → Prop} {c : Cel} {bs : List Bool} {vp : Value} (h : SearchR V g l M c k dn bs vp p W) (hb : Below W.heap.size W W') : SearchR V g l M c k dn bs vp p W' :=
  ⟨h.row.below hb, h.seen, h.own.keep hb, h.pi, h.keep.trans ⟨hb.os, hb.tape, hb.output, hb.size, fun q h1 _ => hb.block q (by have := h.keep.size; omega)⟩⟩
theorem SearchR.len {V W : World} {g k : Nat} {l p : List Cel} {M dn : Cel → Prop} {c : Cel} {bs : List Bool} {vp : Value} (h : SearchR V g l M c k dn bs vp p W) : p.length ≤ l.length :=
  nodup_len h.pi.nodup fun d hd => (h.pi.mem d hd).1
/-- The cells that the inner loop has come by. -/
def firstJ (l : List Cel) (j : Nat) (d : Cel) : Prop := ∃ i, i < j ∧ l[i]? = some d
theorem firstJ_succ {l : List Cel} {j : Nat} {x : Cel} (hx : l[j]? = some x) (e : Cel) (h : firstJ l (j + 1) e) : firstJ l j e ∨ e = x := by
  obtain ⟨i, hi, he⟩ := h
  rcases Nat.lt_or_eq_of_le (Nat.le_of_lt_succ hi) with h1 | rfl
  · exact .inl ⟨i, h1, he⟩
  · exact .inr (Option.some.inj (he.symm.trans hx))
theorem refGroups_ok (l : List Cel) (v : Value) (w : World) (hl : Sl w v l) (hn : l.length ≤ 100000) (hnear : ∀ c ∈ l, Near c 3000) (hup : Up l) :
    Calls Tryz.prog 57 #[v, .bool false] w fun e w' => ∃ v', e = .returned v' ∧ OwnLs w' w.heap.size v' (partK NearR l l.length) ∧ Below w.heap.size w w' := by
  have hnd : l.Nodup := up_nodup hup
  obtain ⟨A, cap, rfl⟩ := hl.form
  obtain ⟨j0, hj, hy0, hy1, hy2⟩ := info_parts (P := Tryz.prog) (e := 4) (z := .bool false) (size := 1) (bytes := 1) (by kernel_rfl)
  go_enter Tryz.func57, Tryz.ntmps57
  go_wp2_with (at_make; refine wpList_make_full _ rfl _ _ 164 rfl w.heap.size 4 j0 _ 1 Tryz.underlying164 hj hy0 hy1 .i64 .i64 _ _ l.length rfl rfl rfl rfl ?c1 ?c2 ?c3 ?_)
  case c1 => rw [hy2]; omega
  case c2 => unfold maxLen; omega
  case c3 => exact Nat.le_refl _
  intro w1 hown hgrow
  have hX2 : Below w.heap.size w w1 := (Below.refl _ _).grown hgrow (Nat.le_refl _) (fun k hk => by cases hk)
  have hK : RowBl w1 4 w.heap.size (boolV (List.replicate l.length false)) := by
    have h := RowBl.made hown
    have e : (madeCells #[Value.bool false] l.length).toList = boolV (List.replicate l.length false) := by
      unfold boolV
      rw [List.map_replicate, toList_madeCells_one]
    rw [e] at h
    exact h
  have hlt := hK.lt
  clear hgrow hown
  generalize hg : w.heap.size = g at hK hX2 hlt ⊢
  have hS0 : SeenR l (List.replicate l.length false) fun d => d ∈ (partK NearR l 0).flatten := (SeenR.start l).congr fun c => by simp [partK]
  have hO0 := OwnLs.nil w1 (g + 1)
  generalize List.replicate l.length false = b0 at hK hS0
  go_wp2_with fail
  go_loopw [5, 7] (fun vo i wr => ∃ (k : Nat) (bs : List Bool), k ≤ l.length ∧ i = .int .i64 k ∧ RowBl wr 4 g (boolV bs) ∧ SeenR l bs (fun d => d ∈ (partK NearR l k).flatten) ∧ OwnLs wr (g + 1) vo (partK NearR l k) ∧ Below g w wr) (fun _ i _ => l.length - (intOf i).toNat)
  case atStart => exact ⟨0, b0, Nat.zero_le _, rfl, hK, hS0, by simpa [partK] using hO0, hX2⟩
  case round =>
    clear hK hS0 hO0 hX2
    obtain ⟨k, bs, hk, rfl, hrow, hseen, hout, hX⟩ := hrel
    rename World => w2
    rcases Nat.lt_or_eq_of_le hk with hkn | rfl
    · obtain ⟨bc, o, x, y, z, rfl, -, hbc, hc, r0, r1, r2⟩ := hl.cells hkn
      have hbg : bc < g := by omega
      have R0 := (hX.cell (p := ⟨bc, _, none⟩) hbg).trans r0
      have R1 := (hX.cell (p := ⟨bc, _, none⟩) hbg).trans r1
      have R2 := (hX.cell (p := ⟨bc, _, none⟩) hbg).trans r2
      have hk0 : (0 : Int) ≤ k := by omega
      have hk1 : (k : Int) < l.length := by omega
      have wk := wrapS (n := (k : Int) + 1) (by omega)
      obtain ⟨vk, hvk, hvi⟩ := hseen.at_ k _ hc
      have hsk := hrow.cell (boolV_at hvk)
      have hform := hout.sl.form
      obtain ⟨Ao, co, rfl⟩ := hform
      have HK := Lib.hid (show k + 1 ≤ l.length from hkn)
      have HM := Lib.hid (show l.length - (k + 1) < l.length - k by omega)
      have HC := Lib.hid hc
      cases vk with
      | true =>
        have e := partK_in (R := NearR) HC.out (hvi.1 rfl)
        have HE := Lib.hid e
        clear hvi hvk hc R0 R1 R2 r0 r1 r2 e
        go_wp2_with fail
        go_roundw
        case rel => exact ⟨k + 1, bs, HK.out, by simp, hrow, by rw [HE.out]; exact hseen, by rw [HE.out]; exact hout, hX⟩
        case measure => exact HM.out
      | false =>
        have hin : (x, y, z) ∉ (partK NearR l k).flatten := fun h => by cases hvi.2 h
        have hcl : (x, y, z) ∈ l := List.mem_of_getElem? hc
        have hfz := hrow.fz k
        have hgw : g < w2.heap.size := hrow.lt
        obtain ⟨V, hV⟩ : ∃ V, V = w2.setCell ⟨g, k, none⟩ (.bool true) := ⟨_, rfl⟩
        have hrowV : RowBl V 4 g (boolV (bs.set k true)) := by
          subst hV
          have h := hrow.set k (.bool true)
          rwa [boolV_set] at h
        have hkV : Keep1 w2.heap.size g w2 V := by subst hV; exact Keep1.set _ _ _ _
        have hoV := hout.keep1 hkV (by omega)
        have hXV : Below g w V := Below.keep1 hX hkV (Nat.le_refl _) (by omega)
        have hseenV := hseen.set (M' := fun d => d ∈ (partK NearR l k).flatten ∨ d ∈ [(x, y, z)]) hnd hc (fun d => by simp)
        have hgV : g < V.heap.size := by have := hkV.size; omega
        have hT := hl.below (w' := V) (by rw [hg]; exact hXV)
        have S0 := (hXV.cell (p := ⟨bc, _, none⟩) hbg).trans r0
        have S1 := (hXV.cell (p := ⟨bc, _, none⟩) hbg).trans r1
        have S2 := (hXV.cell (p := ⟨bc, _, none⟩) hbg).trans r2
        clear hvi hvk hc r0 r1 r2 hrow hseen hout hX hkV hlt
        go_upto_region 8 with fail
        rw [← hV]
        clear hV R0 R1 R2 hfz hgw hsk
        have hO1 : Own (V.alloc (.cells #[.int .i64 x, .int .i64 y, .int .i64 z] 24)) V.heap.size (.slice (some ⟨V.heap.size, 0, none⟩) 1 1) [(x, y, z)] := World.ownsRow_lit V _ 1 (Nat.le_refl _) (by unfold maxLen; omega) rfl
        have hXa : Below V.heap.size V (V.alloc (.cells #[.int .i64 x, .int .i64 y, .int .i64 z] 24)) := below_alloc _ _
        have sr0 : SearchR V g l (fun d => d ∈ (partK NearR l k).flatten) (x, y, z) 0 (fun _ => False) (bs.set k true) (.slice (some ⟨V.heap.size, 0, none⟩) 1 1) [(x, y, z)] (V.alloc (.cells #[.int .i64 x, .int .i64 y, .int .i64 z] 24)) :=
          ⟨hrowV.below hXa, hseenV, hO1, PartI.start ⟨hcl, hin⟩, Keep1.of_below hXa⟩
        clear hO1 hXa hrowV hseenV
        generalize bs.set k true = b1 at sr0
        go_wp2_with fail
        generalize V.alloc (.cells #[.int .i64 x, .int .i64 y, .int .i64 z] 24) = V1 at sr0 ⊢
        go_loopw [8, 9] (fun vp kk wr => ∃ (i : Nat) (bs : List Bool) (p : List Cel), i ≤ p.length ∧ kk = .int .i64 i ∧ SearchR V g l (fun d => d ∈ (partK NearR l k).flatten) (x, y, z) i (fun _ => False) bs vp p wr) (fun _ kk _ => l.length - (intOf kk).toNat)
        case atStart => exact ⟨0, b1, _, Nat.zero_le _, rfl, sr0⟩
        case round =>
          clear sr0 S0 S1 S2
          obtain ⟨i, bs, p, hi, rfl, sr⟩ := hrel
          rename World => w3
          have hpl := sr.len
          have hform := sr.own.sl.form
          obtain ⟨Ap, cp, rfl⟩ := hform
          rcases Nat.lt_or_eq_of_le hi with hin2 | rfl
          · have hi0 : (0 : Int) ≤ i := by omega
            have hi1 : (i : Int) < p.length := by omega
            have wi := wrapS (n := (i : Int) + 1) (by omega)
            obtain ⟨x0, hx0⟩ : ∃ x0, p[i]? = some x0 := ⟨_, List.getElem?_eq_getElem hin2⟩
            go_wp2_with fail
            have hHI := Lib.hid (show i + 1 ≤ p.length from hin2)
            go_loopw [8, 10] (fun vp jj wr => ∃ (j : Nat) (bs : List Bool) (p : List Cel), j ≤ l.length ∧ jj = .int .i64 j ∧ p[i]? = some x0 ∧ SearchR V g l (fun d => d ∈ (partK NearR l k).flatten) (x, y, z) i (firstJ l j) bs vp p wr) (fun _ jj _ => l.length - (intOf jj).toNat)
            case atStart => exact ⟨0, bs, p, Nat.zero_le _, rfl, hx0, { sr with pi := { sr.pi with cur := fun y _ d ⟨q, hq, _⟩ => absurd hq (Nat.not_lt_zero q) } }⟩
            case round =>
              clear sr hx0 hi0 hi1 hpl hi hHI
              obtain ⟨j, bs, p, hj, rfl, hx0, sr⟩ := hrel
              rename World => w4
              have hil : i < p.length := (List.getElem?_eq_some_iff.1 hx0).1
              have hpl := sr.len
              have hform := sr.own.sl.form
              obtain ⟨Ap, cp, rfl⟩ := hform
              rcases Nat.lt_or_eq_of_le hj with hjn | rfl
              · have hi0 : (0 : Int) ≤ i := by omega
                have hi1 : (i : Int) < p.length := by omega
                have hj0 : (0 : Int) ≤ j := by omega
                have hj1 : (j : Int) < l.length := by omega
                have wj := wrapS (n := (j : Int) + 1) (by omega)
                have hXw : Below g w w4 := Below.keep1 hXV sr.keep (Nat.le_refl _) (by omega)
                obtain ⟨bj, oj, dx, dy, dz, ej, -, -, hd, q0, q1, q2⟩ := hl.cells hjn
                injection ej with ej
                injection ej with ej1 ej2
                subst ej1 ej2
                have D0 := (hXw.cell (p := ⟨bc, _, none⟩) hbg).trans q0
                have D1 := (hXw.cell (p := ⟨bc, _, none⟩) hbg).trans q1
                have D2 := (hXw.cell (p := ⟨bc, _, none⟩) hbg).trans q2
                obtain ⟨bp, op, ex, ey, ez, rfl, -, hbp, he, p0, p1, p2⟩ := sr.own.sl.cells hil
                obtain rfl : x0 = (ex, ey, ez) := Option.some.inj (hx0.symm.trans he)
                obtain ⟨sv, hsv, hsi⟩ := sr.seen.at_ j _ hd
                have hsk := sr.row.cell (boolV_at hsv)
                have HJ := Lib.hid (show j + 1 ≤ l.length from hjn)
                have HM2 := Lib.hid (show l.length - (j + 1) < l.length - j by omega)
                clear q0 q1 q2 he
                cases sv with
                | true =>
                  have sr2 : SearchR V g l (fun d => d ∈ (partK NearR l k).flatten) (x, y, z) i (firstJ l (j + 1)) bs (.slice (some ⟨bp, op, none⟩) p.length cp) p w4 :=
                    { sr with pi := sr.pi.skip (d := (dx, dy, dz)) hx0 (fun ht _ => ((hsi.1 rfl).resolve_left ht.2)) (firstJ_succ hd) }
                  have HX0 := Lib.hid hx0
                  clear sr hsi hsv hd hx0 p0 p1 p2 D0 D1 D2 hXw
                  go_wp2_with fail
                  go_quiet (fail)
                  rename Nat => q1
                  go_wp2_with fail
                  go_roundw
                  case rel => exact ⟨j + 1, bs, p, HJ.out, by simp, HX0.out, sr2.below ⟨rfl, rfl, rfl, Nat.le_refl _, fun _ _ => rfl⟩⟩
                  case measure => exact HM2.out
                | false =>
                  have hnM : (dx, dy, dz) ∉ (partK NearR l k).flatten := fun h => by cases hsi.2 (.inl h)
                  have hnp : (dx, dy, dz) ∉ p := fun h => by cases hsi.2 (.inr h)
                  obtain ⟨zb, hzb⟩ : ∃ zb, decide (distI (ex, ey, ez) (dx, dy, dz) = 1) = zb := ⟨_, rfl⟩
                  have q := fun W => joined_ok (ex, ey, ez) (dx, dy, dz) (hnear _ (sr.pi.mem _ (List.mem_of_getElem? hx0)).1) (hnear _ (List.mem_of_getElem? hd)) W zb hzb
                  unfold cellV at q
                  dsimp only at q
                  have hgw : g < w4.heap.size := sr.row.lt
                  have hbw : bc < w4.heap.size := by omega
                  have kS : ∀ W', Below w4.heap.size w4 W' → W'.cell? ⟨g, j, none⟩ = some (.bool false) ∧ (W'.cell? ⟨bp, op + i * 3, none⟩ = some (.int .i64 ex) ∧ W'.cell? ⟨bp, op + i * 3 + 1, none⟩ = some (.int .i64 ey) ∧ W'.cell? ⟨bp, op + i * 3 + 2, none⟩ = some (.int .i64 ez)) ∧ W'.cell? ⟨bc, o + j * 3, none⟩ = some (.int .i64 dx) ∧ W'.cell? ⟨bc, o + j * 3 + 1, none⟩ = some (.int .i64 dy) ∧ W'.cell? ⟨bc, o + j * 3 + 2, none⟩ = some (.int .i64 dz) := fun W' h =>
                    ⟨(h.cell (p := ⟨g, _, none⟩) hgw).trans hsk, ⟨(h.cell (p := ⟨bp, _, none⟩) hbp).trans p0, (h.cell (p := ⟨bp, _, none⟩) hbp).trans p1, (h.cell (p := ⟨bp, _, none⟩) hbp).trans p2⟩, (h.cell (p := ⟨bc, _, none⟩) hbw).trans D0, (h.cell (p := ⟨bc, _, none⟩) hbw).trans D1, (h.cell (p := ⟨bc, _, none⟩) hbw).trans D2⟩
                  have hX4 : Below w4.heap.size w4 w4.drew := (Below.refl _ _).drew
                  have hS0 := kS _ hX4
                  have HD := Lib.hid hd
                  have HX0 := Lib.hid hx0
                  have HN := Lib.hid (And.intro hnM hnp)
                  have HZ := Lib.hid hzb
                  clear hd hx0 hnM hnp hzb hsi hsv hXw p0 p1 p2 D0 D1 D2 hsk
                  go_wp2_with fail
                  go_region_held3 (fun w' => w'.cell? ⟨g, j, none⟩ = some (.bool false) ∧ (w'.cell? ⟨bp, op + i * 3, none⟩ = some (.int .i64 ex) ∧ w'.cell? ⟨bp, op + i * 3 + 1, none⟩ = some (.int .i64 ey) ∧ w'.cell? ⟨bp, op + i * 3 + 2, none⟩ = some (.int .i64 ez)) ∧ w'.cell? ⟨bc, o + j * 3, none⟩ = some (.int .i64 dx) ∧ w'.cell? ⟨bc, o + j * 3 + 1, none⟩ = some (.int .i64 dy) ∧ w'.cell? ⟨bc, o + j * 3 + 2, none⟩ = some (.int .i64 dz)) (first | exact hS0 | exact hS1 | go_keep) (first
                    | (go_at_call 116; refine (q _).mono ?_; rintro e w5 ⟨rfl, hB5⟩; have hX5 := hX4.trans (hB5.mono hX4.size); have hS1 := kS _ hX5))
                  rename_i hHeld
                  clear hHeld hS0 q
                  have sr5 := sr.below hX5
                  have hS5 := hS1
                  clear hS1 sr kS hB5
                  obtain ⟨s0, -, d0, d1, d2⟩ := hS5
                  cases zb with
                  | false =>
                    have sr6 : SearchR V g l (fun d => d ∈ (partK NearR l k).flatten) (x, y, z) i (firstJ l (j + 1)) bs (.slice (some ⟨bp, op, none⟩) p.length cp) p w5 :=
                      { sr5 with pi := sr5.pi.skip (d := (dx, dy, dz)) HX0.out (fun _ hr => absurd (near_iff.1 hr) (of_decide_eq_false HZ.out)) (firstJ_succ HD.out) }
                    clear sr5 d0 d1 d2 s0 hX5 hX4
                    go_wp2_with fail
                    go_roundw
                    case rel => exact ⟨j + 1, bs, p, HJ.out, by simp, HX0.out, sr6⟩
                    case measure => exact HM2.out
                  | true =>
                    have hfz := sr5.row.fz j
                    have hg5 : g < w5.heap.size := sr5.row.lt
                    have hXw5 : Below g w w5 := Below.keep1 hXV sr5.keep (Nat.le_refl _) (by omega)
                    obtain ⟨V2, hV2⟩ : ∃ V2, V2 = w5.setCell ⟨g, j, none⟩ (.bool true) := ⟨_, rfl⟩
                    have hk2 : Keep1 w5.heap.size g w5 V2 := by subst hV2; exact Keep1.set _ _ _ _
                    have hrow2 : RowBl V2 4 g (boolV (bs.set j true)) := by
                      subst hV2
                      have h := sr5.row.set j (.bool true)
                      rwa [boolV_set] at h
                    have hown2 := sr5.own.keepG hk2 (by omega)
                    have hX2 : Below g w V2 := Below.keep1 hXw5 hk2 (Nat.le_refl _) (by omega)
                    have hK2 : Keep1 V.heap.size g V V2 := sr5.keep.trans (hk2.mono sr5.keep.size)
                    have hseen2 := sr5.seen.set (M' := fun d => d ∈ (partK NearR l k).flatten ∨ d ∈ p ++ [(dx, dy, dz)]) hnd HD.out (fun d => by rw [List.mem_append, List.mem_singleton, or_assoc])
                    have hpi2 := sr5.pi.push HX0.out ⟨List.mem_of_getElem? HD.out, HN.out.1⟩ (near_iff.2 (of_decide_eq_true HZ.out)) HN.out.2 (firstJ_succ HD.out)
                    have hsz2 : V.heap.size ≤ V2.heap.size := hK2.size
                    have E0 := (hk2.block bc (by omega) (by omega))
                    have e0 := (World.cell?_of_block (a := ⟨bc, o + j * 3, none⟩) E0).trans d0
                    have e1 := (World.cell?_of_block (a := ⟨bc, o + j * 3 + 1, none⟩) E0).trans d1
                    have e2 := (World.cell?_of_block (a := ⟨bc, o + j * 3 + 2, none⟩) E0).trans d2
                    have HSE := Lib.hid hseen2
                    have HPI := Lib.hid hpi2
                    clear sr5 hseen2 hpi2 hXw5 hX5 hX4 E0 hk2
                    go_upto_region 17 with fail
                    rw [← hV2]
                    clear hV2 d0 d1 d2 s0 hfz hg5
                    go_wp2_with (at_builtin; refine wpList_append_sl rfl _ _ rfl V.heap.size ?dE _ p rfl (hown2.alloc _) _ [(dx, dy, dz)] rfl (.inr ⟨_, 1, rfl, row_one V2 dx dy dz⟩) ?dC ?_)
                    case dC => simp; omega
                    case dE => simp; omega
                    intro v8 w7 hown8 hB8
                    have hB8' := (((Below.refl V.heap.size V2).alloc hsz2 (.cells #[.int .i64 dx, .int .i64 dy, .int .i64 dz] 24)).trans hB8)
                    have sr7 : SearchR V g l (fun d => d ∈ (partK NearR l k).flatten) (x, y, z) i (firstJ l (j + 1)) (bs.set j true) v8 (p ++ [(dx, dy, dz)]) w7 :=
                      ⟨hrow2.keep (hB8'.block g hgV), HSE.out, hown8, HPI.out, hK2.trans (Keep1.of_below hB8')⟩
                    clear e0 e1 e2 hown2 hB8 hown8 hrow2
                    go_wp2_with fail
                    go_roundw
                    case rel => exact ⟨j + 1, _, _, HJ.out, by simp, by rw [List.getElem?_append_left hil]; exact HX0.out, sr7⟩
                    case measure => exact HM2.out
              · have sr8 : SearchR V g l (fun d => d ∈ (partK NearR l k).flatten) (x, y, z) (i + 1) (fun _ => False) bs (.slice Ap p.length cp) p w4 :=
                  { sr with pi := sr.pi.next hx0 (fun d hd _ => by
                      obtain ⟨q, hq⟩ := List.mem_iff_getElem?.1 hd.1
                      exact ⟨q, (List.getElem?_eq_some_iff.1 hq).1, hq⟩) }
                have HM3 := Lib.hid (show l.length - (i + 1) < l.length - i by omega)
                have HIL := Lib.hid (show i + 1 ≤ p.length from hil)
                clear sr
                go_wp2_with fail
                go_roundw
                case rel => exact ⟨i + 1, bs, p, HIL.out, by simp, sr8⟩
                case measure => exact HM3.out
          · have q := refSorted_ok p _ w3 sr.own.sl (by omega)
            have hX3 : Below g w w3 := Below.keep1 hXV sr.keep (Nat.le_refl _) (by omega)
            have ho3 := hoV.keep1 sr.keep (by omega)
            have hrow3 := sr.row
            have hs3 := (sr.seen).congr (M' := fun d => d ∈ (partK NearR l (k + 1)).flatten) fun d => (taken_new HC.out hin (fun d => part_found nearR_sym (by omega) hcl hin sr.pi (Nat.le_refl _) d) d).symm
            have hpi := sr.pi
            have hw3 : g + 1 ≤ w3.heap.size := hrow3.lt
            clear sr
            go_wp2_with fail
            refine q.mono ?_
            rintro e w4 ⟨v4, out, rfl, hown4, hu4, hm4, hB4⟩
            have hpt : out = partC NearR l (x, y, z) := part_is hup nearR_sym (by omega) hcl hin hpi (Nat.le_refl _) hu4 hm4
            have hlay : LayC w4 (g + 1) v4 out := (hown4.lay).mono hw3
            have hform := hown4.sl.form
            obtain ⟨A4, c4, rfl⟩ := hform
            have hlen := partK_le l k
            have hX4 := hX3.trans (hB4.mono (by omega))
            obtain ⟨A2, c2, w5, hap, hout5, hB5⟩ := run_append_list w4 27 (g + 1) _ _ _ _ _ out (ho3.keep hB4) hlay (by omega) (by have := hB4.size; omega)
            have hX5 := hX4.trans (hB5.mono (by omega))
            have hrow5 : RowBl w5 4 g (boolV bs) := (hrow3.below hB4).keep (hB5.block g (by omega))
            have hout6 : OwnLs w5 (g + 1) (.slice A2 ((partK NearR l k).length + 1) c2) (partK NearR l (k + 1)) := by rw [partK_new HC.out hin, ← hpt]; exact hout5
            have HAP := Lib.hid hap
            have HS3 := Lib.hid hs3
            clear hap hs3 hout5 hB5 hX4 hlay hpt hown4 hu4 hm4 hrow3 ho3 hX3 hpi q hB4 hXV hoV hT hin hcl
            go_wp2_with (at_builtin; refine Lib.wpList_append_run _ rfl _ _ _ _ rfl _ _ rfl rfl _ _ HAP.out ?_)
            go_roundw
            case rel => exact ⟨k + 1, bs, HK.out, by simp, hrow5, HS3.out, hout6, hX5⟩
            case measure => exact HM.out
    · have hO := hout.mono (show w.heap.size ≤ g + 1 by omega)
      have hX' : Below w.heap.size w w2 := by rw [hg]; exact hX
      clear hout hX hseen hrow
      go_wp2
      go_ret
      exact ⟨_, rfl, hO, hX'⟩
end Go.Proofs
