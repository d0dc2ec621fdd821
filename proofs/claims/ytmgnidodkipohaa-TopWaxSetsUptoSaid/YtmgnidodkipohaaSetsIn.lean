/- TopWaxSets within its range. -/
import Derived.Test.YtmgnidodkipohaaSetsW
import Derived.Test.YtmgnidodkipohaaCheckBox
namespace Go.Proofs
open Go.RowKit
set_option maxHeartbeats 16000000
set_option maxRecDepth 1000000
def Sts (W : World) (vs : List (Value × List Cel)) : Prop := ∀ p ∈ vs, St W p.1 p.2
theorem Sts.hd {W : World} {p : Value × List Cel} {vs : List (Value × List Cel)} (h : Sts W (p :: vs)) : St W p.1 p.2 := h p (List.mem_cons_self ..)
theorem Sts.tl {W : World} {p : Value × List Cel} {vs : List (Value × List Cel)} (h : Sts W (p :: vs)) : Sts W vs := fun q hq => h q (List.mem_cons_of_mem _ hq)
theorem Sts.below {W W' : World} {vs : List (Value × List Cel)} (h : Sts W vs) (hb : Below W.heap.size W W') : Sts W' vs := fun p hp => (h p hp).below hb
theorem Sts.cons {W : World} {v : Value} {l : List Cel} {vs : List (Value × List Cel)} (h : Sts W vs) (hs : St W v l) : Sts W ((v, l) :: vs) := fun p hp => by
  rcases List.mem_cons.1 hp with rfl | hp
  · exact hs
  · exact h p hp
theorem cutX {a b X : List Cel} {va vb : Value} {w : World} (hX : (a.filter fun c => decide (c ∈ b)) = X) (ha : St w va a) (hb : St w vb b) (ca : chkI a = 0) (cb : chkI b = 0) :
    Calls Try.prog 12 #[va, vb] w (Gives w X) := by
  subst hX
  exact cutS ha hb ca cb
theorem lessX {a b X : List Cel} {va vb : Value} {w : World} (hX : (a.filter fun c => !decide (c ∈ b)) = X) (ha : St w va a) (hb : St w vb b) (ca : chkI a = 0) (cb : chkI b = 0) :
    Calls Try.prog 13 #[va, vb] w (Gives w X) := by
  subst hX
  exact lessS ha hb ca cb
theorem turnX {a X : List Cel} {va : Value} {w : World} {k : Nat} (hX : sortC (a.map (turnB k (1, 0, 0))) = X) (ha : St w va a) (ca : chkI a = 0) (hn : ∀ c ∈ a, Near c 100) (hk : k < 24) :
    Calls Try.prog 21 #[va, .int .i64 k, .agg #[.int .i64 1, .int .i64 0, .int .i64 0]] w (Gives w X) := by
  subst hX
  exact turnS ha ca hn hk
theorem sameX {l m : List Cel} {v u : Value} {w : World} (h : l = m) (hl : St w v l) (hm : St w u m) (hc : chkI l = 0) :
    Calls Try.prog 18 #[v, u] w fun e w' => e = .returned (.bool true) ∧ Below w.heap.size w w' := by
  refine (sameSl l m v u w hl.1 hm.1 (chk_len hc)).mono ?_
  rintro e w' ⟨rfl, q, rfl⟩
  exact ⟨by rw [decide_eq_true h], ⟨rfl, rfl, rfl, Nat.le_refl _, fun _ _ => rfl⟩⟩
theorem sets_in (a b : List Cel) (va vb : Value) (n : Nat) (hn : n < 24) (w : World) (ha : St w va a) (hb : St w vb b) (la : a.length ≤ 400000) (lb : b.length ≤ 400000)
    (U : List Cel) (hU : Up U) (hmU : ∀ c, c ∈ U ↔ c ∈ a ∨ c ∈ b) (hg : setsGate a b U n = true) :
    Calls Try.prog 3 #[va, vb, .int .i64 n] w fun e w' => e = .returned (.bool true) ∧ Below w.heap.size w w' := by
  obtain ⟨hwax, hne, hrg⟩ := gate_all hg
  obtain ⟨ga, gb, gu⟩ := wax3 hwax
  obtain ⟨al, ca, -, an⟩ := gate_few ga
  obtain ⟨bl, cb, -, bn⟩ := gate_few gb
  obtain ⟨ul, cu, uv, un⟩ := gate_few gu
  clear hg ga gb gu
  obtain ⟨h, hh⟩ : ∃ h, U[0]? = some h := by
    cases U with
    | nil =>
      cases a with
      | cons x a => exact absurd ((hmU x).2 (.inl (List.mem_cons_self ..))) (by simp)
      | nil =>
        cases b with
        | cons x b => exact absurd ((hmU x).2 (.inr (List.mem_cons_self ..))) (by simp)
        | nil => exact absurd rfl hne
    | cons x U => exact ⟨x, rfl⟩
  obtain ⟨n1, n2, hwd, hsz⟩ := box_facts hh un uv
  have kBound : ∀ (v : Value) (W : World), St W v U → Calls Try.prog 15 #[v] W fun e w' => e = .returned (.tuple #[boxV (bndK h U U.length), .int .i64 0]) ∧ Below W.heap.size W w' := fun v W hs => Bound_ok U h v W hs.1 hh cu
  generalize bndK h U U.length = B at n1 n2 hwd hsz kBound
  have m1 := n1.mono (b := 1000) (by omega)
  have m2 := n2.mono (b := 1000) (by omega)
  have kBox := checkBox_ok B m1 m2 hwd (by omega)
  have kBlock := blockS B m1 m2 hwd (by omega)
  have kSize := size_ok B m1 m2
  have hlen := len_boxL B hwd
  have cALL := chk_box m1 m2 hwd (by omega)
  rw [← hlen] at kSize
  obtain ⟨ALL, hALL⟩ : ∃ X, boxL B = X := ⟨_, rfl⟩
  rw [hALL] at kBlock kSize cALL
  clear hALL hlen n1 n2 m1 m2 hwd hsz hh h uv
  obtain ⟨C, hC⟩ : ∃ X, (a.filter fun c => decide (c ∈ b)) = X := ⟨_, rfl⟩
  obtain ⟨L, hL⟩ : ∃ X, (a.filter fun c => !decide (c ∈ b)) = X := ⟨_, rfl⟩
  obtain ⟨NO, hNO⟩ : ∃ X, (ALL.filter fun c => !decide (c ∈ U)) = X := ⟨_, rfl⟩
  obtain ⟨NA, hNA⟩ : ∃ X, (ALL.filter fun c => !decide (c ∈ a)) = X := ⟨_, rfl⟩
  obtain ⟨NB, hNB⟩ : ∃ X, (ALL.filter fun c => !decide (c ∈ b)) = X := ⟨_, rfl⟩
  have hNE : (NA.filter fun c => decide (c ∈ NB)) = NO := by rw [← hNA, ← hNB, ← hNO]; exact (de_morgan hmU).symm
  obtain ⟨TA, hTA⟩ : ∃ X, sortC (a.map (turnB n (1, 0, 0))) = X := ⟨_, rfl⟩
  obtain ⟨TB, hTB⟩ : ∃ X, sortC (b.map (turnB n (1, 0, 0))) = X := ⟨_, rfl⟩
  obtain ⟨TU, hTU⟩ : ∃ X, sortC (U.map (turnB n (1, 0, 0))) = X := ⟨_, rfl⟩
  have cC : chkI C = 0 := by rw [← hC]; exact chk_filter ca _
  have cL : chkI L = 0 := by rw [← hL]; exact chk_filter ca _
  have cNO : chkI NO = 0 := by rw [← hNO]; exact chk_filter cALL _
  have cNA : chkI NA = 0 := by rw [← hNA]; exact chk_filter cALL _
  have cNB : chkI NB = 0 := by rw [← hNB]; exact chk_filter cALL _
  have cTA : chkI TA = 0 := by rw [← hTA]; exact turn_chk ca an hn
  have cTB : chkI TB = 0 := by rw [← hTB]; exact turn_chk cb bn hn
  have cTU : chkI TU = 0 := by rw [← hTU]; exact turn_chk cu un hn
  have upTU : Up TU := (chkI_zero.1 cTU).2.2
  have mTU : ∀ c, c ∈ TU ↔ c ∈ TA ∨ c ∈ TB := fun x => by
    rw [← hTA, ← hTB, ← hTU, mem_sortC, mem_sortC, mem_sortC, List.mem_map, List.mem_map, List.mem_map]
    constructor
    · rintro ⟨c, hc, rfl⟩
      exact ((hmU c).1 hc).imp (fun h => ⟨c, h, rfl⟩) (fun h => ⟨c, h, rfl⟩)
    · rintro (⟨c, hc, rfl⟩ | ⟨c, hc, rfl⟩)
      · exact ⟨c, (hmU c).2 (.inl hc), rfl⟩
      · exact ⟨c, (hmU c).2 (.inr hc), rfl⟩
  have mC : ∀ c, c ∈ C ↔ c ∈ a ∧ c ∈ b := fun c => by rw [← hC, List.mem_filter]; simp
  have mL : ∀ c, c ∈ L ↔ c ∈ a ∧ ¬ c ∈ b := fun c => by rw [← hL, List.mem_filter]; simp
  have HC := Lib.hid hC
  have HL := Lib.hid hL
  have HNO := Lib.hid hNO
  have HNA := Lib.hid hNA
  have HNB := Lib.hid hNB
  have HNE := Lib.hid hNE
  have HTA := Lib.hid hTA
  have HTB := Lib.hid hTB
  have HTU := Lib.hid hTU
  have Hca := Lib.hid ca
  have Hcb := Lib.hid cb
  have Hcu := Lib.hid cu
  have HcC := Lib.hid cC
  have HcL := Lib.hid cL
  have HcNO := Lib.hid cNO
  have HcNA := Lib.hid cNA
  have HcNB := Lib.hid cNB
  have HcALL := Lib.hid cALL
  have HcTA := Lib.hid cTA
  have HcTB := Lib.hid cTB
  have HcTU := Lib.hid cTU
  have hU40 : ¬ (40 : Int) < U.length := by omega
  have lU := chk_len cu
  have lTU := chk_len cTU
  have lALL := chk_len cALL
  have hab : IntKind.i64.wrap ((a.length : Int) + b.length) = ((a.length + b.length : Nat) : Int) := wrapL (by omega)
  have hu := refUnion_ok a b va vb w ha.1 hb.1 la lb
  have hwx : ∀ (v' : Value) (W : World), Below w.heap.size w W → Own W w.heap.size v' U → Calls Try.prog 7 #[.int .i64 20, .slice (some ⟨W.heap.size, 0, none⟩) 3 3] (W.alloc (.cells #[va, vb, v'] 22)) fun e w' => e = .returned (.bool true) ∧ Below (W.heap.size + 1) (W.alloc (.cells #[va, vb, v'] 22)) w' := fun v' W hB hown => by
    have h := waxFew_ok 20 (by omega) [va, vb, v'] [a, b, U] W.heap.size 0 3 (W.alloc (.cells #[va, vb, v'] 22)) rfl (by simp) (by simp)
      (fun i v hi => by
        match i, hi with
        | 0, hi => obtain rfl : va = v := by simpa using hi
                   go_simp
        | 1, hi => obtain rfl : vb = v := by simpa using hi
                   go_simp
        | 2, hi => obtain rfl : v' = v := by simpa using hi
                   go_simp)
      (fun i v l hi hl => by
        have hA := (Below.refl W.heap.size W).alloc (Nat.le_refl _) (.cells #[va, vb, v'] 22)
        match i, hi, hl with
        | 0, hi, hl => obtain rfl : va = v := by simpa using hi
                       obtain rfl : a = l := by simpa using hl
                       exact ⟨(ha.1.below hB).below hA, by unfold maxLen; omega⟩
        | 1, hi, hl => obtain rfl : vb = v := by simpa using hi
                       obtain rfl : b = l := by simpa using hl
                       exact ⟨(hb.1.below hB).below hA, by unfold maxLen; omega⟩
        | 2, hi, hl => obtain rfl : v' = v := by simpa using hi
                       obtain rfl : U = l := by simpa using hl
                       exact ⟨hown.sl.below hA, by unfold maxLen; omega⟩)
    rw [hwax] at h
    simpa using h
  have hS0 : Sts w [(va, a), (vb, b)] := fun p hp => by
    rcases List.mem_cons.1 hp with rfl | hp
    · exact ha
    · obtain rfl := List.mem_singleton.1 hp
      exact hb
  obtain ⟨A, ka, rfl⟩ := ha.1.form
  obtain ⟨D, kb, rfl⟩ := hb.1.form
  have hne' : ¬ ((a.length : Int) + b.length = 0) := by omega
  obtain ⟨⟨lx, ly, lz⟩, ⟨ux, uy, uz⟩⟩ := B
  unfold boxV at kBound kBox kBlock kSize
  dsimp only at kBound kBox kBlock kSize
  clear hC hL hNO hNA hNB hNE hTA hTB hTU ca cb cu cC cL cNO cNA cNB cALL cTA cTB cTU ha hb hwax la lb hne al bl ul
  go_enter Try.func3, Try.ntmps3
  go_wp2_with fail
  refine hu.mono ?_
  rintro e w2 ⟨v', out, rfl, hown, hup, hmem, hB2⟩
  obtain rfl : out = U := up_ext hup hU fun x => (hmem x).trans (hmU x).symm
  have hw2 := hwx v' w2 hB2 hown
  obtain ⟨E, ke, rfl⟩ := hown.sl.form
  clear hu hwx hown hup hmem
  go_wp2_with fail
  refine hw2.mono ?_
  rintro e w3 ⟨rfl, hB3⟩
  have hB03 : Below w.heap.size w w3 := (hB2.alloc hB2.size _).trans (hB3.mono (by have := hB2.size; omega))
  have hS3 := hS0.below hB03
  clear hw2 hB2 hB3 hS0
  have hcr := checkRange_ok n 0 23 w3
  rw [hrg] at hcr
  clear hrg
  go_wp2_with fail
  refine hcr.mono ?_
  rintro e w' ⟨rfl, rfl⟩
  rename World => w3
  clear hcr
  go_wp2_with fail
  refine (unionS hS3.hd hS3.tl.hd Hca.out Hcb.out hU hmU lU).mono ?_
  rintro e w4 ⟨AU, kU, rfl, hSn, hBn⟩
  have hS4 := (hS3.below hBn).cons hSn
  have hB4 := hB03.trans (hBn.mono hB03.size)
  clear hne' hab
  clear hS3 hB03 hBn hSn
  go_wp2_with fail
  refine (cutX HC.out hS4.tl.hd hS4.tl.tl.hd Hca.out Hcb.out).mono ?_
  rintro e w5 ⟨AC, kC, rfl, hSn, hBn⟩
  have hS5 := (hS4.below hBn).cons hSn
  have hB5 := hB4.trans (hBn.mono hB4.size)
  clear hS4 hB4 hBn hSn
  go_wp2_with fail
  refine (lessX HL.out hS5.tl.tl.hd hS5.tl.tl.tl.hd Hca.out Hcb.out).mono ?_
  rintro e w6 ⟨AL, kL, rfl, hSn, hBn⟩
  have hS6 := (hS5.below hBn).cons hSn
  have hB6 := hB5.trans (hBn.mono hB5.size)
  clear hS5 hB5 hBn hSn
  go_wp2_with fail
  refine (chkS hS6.tl.tl.hd Hcu.out).mono ?_
  rintro e w7 ⟨rfl, hBn⟩
  have hS7 := hS6.below hBn
  have hB7 := hB6.trans (hBn.mono hB6.size)
  clear hS6 hB6 hBn
  go_wp2_with fail
  refine (chkS hS7.tl.hd HcC.out).mono ?_
  rintro e w8 ⟨rfl, hBn⟩
  have hS8 := hS7.below hBn
  have hB8 := hB7.trans (hBn.mono hB7.size)
  clear hS7 hB7 hBn
  go_wp2_with fail
  refine (chkS hS8.hd HcL.out).mono ?_
  rintro e w9 ⟨rfl, hBn⟩
  have hS9 := hS8.below hBn
  have hB9 := hB8.trans (hBn.mono hB8.size)
  clear hS8 hB8 hBn
  go_wp2_with fail
  refine (kBound _ _ hS9.tl.tl.hd).mono ?_
  rintro e w10 ⟨rfl, hBn⟩
  have hS10 := hS9.below hBn
  have hB10 := hB9.trans (hBn.mono hB9.size)
  clear hS9 hB9 hBn
  go_wp2_with fail
  obtain ⟨w11, hw11⟩ : ∃ w11, w11 = w10.alloc (.cells #[.int .i64 lx, .int .i64 ly, .int .i64 lz, .int .i64 ux, .int .i64 uy, .int .i64 uz] 34) := ⟨_, rfl⟩
  have hBn : Below w10.heap.size w10 w11 := by rw [hw11]; exact (Below.refl _ _).alloc (Nat.le_refl _) _
  have hX11 : Below w11.heap.size w11 w11 := Below.refl _ _
  have hlt11 : w10.heap.size < w11.heap.size := by rw [hw11]; simp
  have hbx : ∀ V, Below w11.heap.size w11 V → V.cell? ⟨w10.heap.size, 0, none⟩ = some (.int .i64 lx) ∧ V.cell? ⟨w10.heap.size, 1, none⟩ = some (.int .i64 ly) ∧ V.cell? ⟨w10.heap.size, 2, none⟩ = some (.int .i64 lz) ∧ V.cell? ⟨w10.heap.size, 3, none⟩ = some (.int .i64 ux) ∧ V.cell? ⟨w10.heap.size, 4, none⟩ = some (.int .i64 uy) ∧ V.cell? ⟨w10.heap.size, 5, none⟩ = some (.int .i64 uz) := fun V h => by
    have hz0 : w11.heap[w10.heap.size]? = some (.cells #[.int .i64 lx, .int .i64 ly, .int .i64 lz, .int .i64 ux, .int .i64 uy, .int .i64 uz] 34 (0, 0)) := by rw [hw11]; exact heap_alloc_new w10 _
    have hz := (h.block w10.heap.size hlt11).trans hz0
    have zl := fun j => cell_of_row V w10.heap.size j _ _ _ hz
    have z0 := zl 0
    have z1 := zl 1
    have z2 := zl 2
    have z3 := zl 3
    have z4 := zl 4
    have z5 := zl 5
    simp at z0 z1 z2 z3 z4 z5
    exact ⟨z0, z1, z2, z3, z4, z5⟩
  have hS11 := hS10.below hBn
  have hB11 := hB10.trans (hBn.mono hB10.size)
  rw [← hw11]
  clear hw11 hlt11 hS10 hB10 hBn
  refine (kBox w11).mono ?_
  rintro e w12 ⟨rfl, hBn⟩
  have hS12 := hS11.below hBn
  have hB12 := hB11.trans (hBn.mono hB11.size)
  have hX12 := hX11.trans (hBn.mono hX11.size)
  clear hS11 hB11 hX11 hBn kBox kBound
  obtain ⟨b0, b1, b2, b3, b4, b5⟩ := hbx w12 hX12
  go_wp2_with fail
  refine (kBlock _).mono ?_
  rintro e w13 ⟨AX, kX, rfl, hSn, hBn⟩
  have hS13 := (hS12.below hBn).cons hSn
  have hB13 := hB12.trans (hBn.mono hB12.size)
  have hX13 := hX12.trans (hBn.mono hX12.size)
  clear hS12 hB12 hBn hSn hX12
  clear b0 b1 b2 b3 b4 b5
  go_wp2_with fail
  refine (lessX HNO.out hS13.hd hS13.tl.tl.tl.hd HcALL.out Hcu.out).mono ?_
  rintro e w14 ⟨AO, kO, rfl, hSn, hBn⟩
  have hS14 := (hS13.below hBn).cons hSn
  have hB14 := hB13.trans (hBn.mono hB13.size)
  have hX14 := hX13.trans (hBn.mono hX13.size)
  clear hS13 hB13 hBn hSn hX13
  go_wp2_with fail
  refine (lessX HNA.out hS14.tl.hd hS14.tl.tl.tl.tl.tl.hd HcALL.out Hca.out).mono ?_
  rintro e w15 ⟨AP, kP, rfl, hSn, hBn⟩
  have hS15 := (hS14.below hBn).cons hSn
  have hB15 := hB14.trans (hBn.mono hB14.size)
  have hX15 := hX14.trans (hBn.mono hX14.size)
  clear hS14 hB14 hBn hSn hX14
  go_wp2_with fail
  refine (lessX HNB.out hS15.tl.tl.hd hS15.tl.tl.tl.tl.tl.tl.tl.hd HcALL.out Hcb.out).mono ?_
  rintro e w16 ⟨AQ, kQ, rfl, hSn, hBn⟩
  have hS16 := (hS15.below hBn).cons hSn
  have hB16 := hB15.trans (hBn.mono hB15.size)
  have hX16 := hX15.trans (hBn.mono hX15.size)
  clear hS15 hB15 hBn hSn hX15
  go_wp2_with fail
  refine (chkS hS16.tl.tl.tl.hd HcALL.out).mono ?_
  rintro e w17 ⟨rfl, hBn⟩
  have hS17 := hS16.below hBn
  have hB17 := hB16.trans (hBn.mono hB16.size)
  have hX17 := hX16.trans (hBn.mono hX16.size)
  clear hS16 hB16 hBn hX16
  go_wp2_with fail
  refine (chkS hS17.tl.hd HcNA.out).mono ?_
  rintro e w18 ⟨rfl, hBn⟩
  have hS18 := hS17.below hBn
  have hB18 := hB17.trans (hBn.mono hB17.size)
  have hX18 := hX17.trans (hBn.mono hX17.size)
  clear hS17 hB17 hBn hX17
  go_wp2_with fail
  refine (chkS hS18.hd HcNB.out).mono ?_
  rintro e w19 ⟨rfl, hBn⟩
  have hS19 := hS18.below hBn
  have hB19 := hB18.trans (hBn.mono hB18.size)
  have hX19 := hX18.trans (hBn.mono hX18.size)
  clear hS18 hB18 hBn hX18
  go_wp2_with fail
  refine (cutX HNE.out hS19.tl.hd hS19.hd HcNA.out HcNB.out).mono ?_
  rintro e w20 ⟨AR, kR, rfl, hSn, hBn⟩
  have hS20 := (hS19.below hBn).cons hSn
  have hB20 := hB19.trans (hBn.mono hB19.size)
  have hX20 := hX19.trans (hBn.mono hX19.size)
  clear hS19 hB19 hBn hSn hX19
  go_wp2_with fail
  refine (sameX rfl hS20.tl.tl.tl.hd hS20.hd HcNO.out).mono ?_
  rintro e w21 ⟨rfl, hBn⟩
  have hS21 := hS20.below hBn
  have hB21 := hB20.trans (hBn.mono hB20.size)
  have hX21 := hX20.trans (hBn.mono hX20.size)
  clear hS20 hB20 hBn hX20
  obtain ⟨b0, b1, b2, b3, b4, b5⟩ := hbx w21 hX21
  go_wp2_with fail
  refine (kSize _).mono ?_
  rintro e w22 ⟨rfl, hBn⟩
  have hS22 := hS21.below hBn
  have hB22 := hB21.trans (hBn.mono hB21.size)
  have hX22 := hX21.trans (hBn.mono hX21.size)
  clear hS21 hB21 hBn hX21
  clear b0 b1 b2 b3 b4 b5
  go_wp2_with fail
  go_loopw [176] (fun i wr => ∃ k : Nat, k ≤ ALL.length ∧ i = .int .i64 k ∧ Below w22.heap.size w22 wr) (fun i _ => ALL.length - (intOf i).toNat)
  case atStart => exact ⟨0, Nat.zero_le _, rfl, Below.refl _ _⟩
  case round =>
    obtain ⟨k, hk, rfl, hBr⟩ := hrel
    rename World => w23
    have hS23 := hS22.below hBr
    have hB23 := hB22.trans (hBr.mono hB22.size)
    rcases Nat.lt_or_eq_of_le hk with hkn | hkn
    · clear hbx hX22 HTA HTB HTU an bn un HNO HNA HNB HNE upTU mTU
      obtain ⟨bq, o, x, y, z, rfl, -, hbq, hc, r0, r1, r2⟩ := (hS23.tl.tl.tl.tl.hd).1.cells hkn
      have hk0 : (0 : Int) ≤ k := by omega
      have hk1 : (k : Int) < ALL.length := by omega
      obtain ⟨w24, hw24⟩ : ∃ w24, w24 = w23.alloc (.cells #[.int .i64 x, .int .i64 y, .int .i64 z] 32) := ⟨_, rfl⟩
      have hBa : Below w23.heap.size w23 w24 := by rw [hw24]; exact (Below.refl _ _).alloc (Nat.le_refl _) _
      have hS24 := hS23.below hBa
      have hB24 := hBr.trans (hBa.mono hBr.size)
      have hlt : w23.heap.size < w24.heap.size := by rw [hw24]; simp
      have d0 : w24.cell? ⟨w23.heap.size, 0, none⟩ = some (.int .i64 x) := by subst hw24; go_simp
      have d1 : w24.cell? ⟨w23.heap.size, 1, none⟩ = some (.int .i64 y) := by subst hw24; go_simp
      have d2 : w24.cell? ⟨w23.heap.size, 2, none⟩ = some (.int .i64 z) := by subst hw24; go_simp
      have hkk : ∀ V, Below w24.heap.size w24 V → V.cell? ⟨w23.heap.size, 0, none⟩ = some (.int .i64 x) ∧ V.cell? ⟨w23.heap.size, 1, none⟩ = some (.int .i64 y) ∧ V.cell? ⟨w23.heap.size, 2, none⟩ = some (.int .i64 z) := fun V h =>
        ⟨(h.cell (p := ⟨w23.heap.size, 0, none⟩) hlt).trans d0, (h.cell (p := ⟨w23.heap.size, 1, none⟩) hlt).trans d1, (h.cell (p := ⟨w23.heap.size, 2, none⟩) hlt).trans d2⟩
      have iU : decide ((x, y, z) ∈ out) = (decide ((x, y, z) ∈ a) || decide ((x, y, z) ∈ b)) := by rw [← Bool.decide_or]; exact decide_eq_decide.2 (hmU _)
      have iC : decide ((x, y, z) ∈ C) = (decide ((x, y, z) ∈ a) && decide ((x, y, z) ∈ b)) := by rw [← Bool.decide_and]; exact decide_eq_decide.2 (mC _)
      have iL : decide ((x, y, z) ∈ L) = (decide ((x, y, z) ∈ a) && !decide ((x, y, z) ∈ b)) := by rw [← decide_not, ← Bool.decide_and]; exact decide_eq_decide.2 (mL _)
      obtain ⟨ia, iA⟩ : ∃ ia, decide ((x, y, z) ∈ a) = ia := ⟨_, rfl⟩
      obtain ⟨ib, iB⟩ : ∃ ib, decide ((x, y, z) ∈ b) = ib := ⟨_, rfl⟩
      rw [iA, iB] at iU iC iL
      have qA : ∀ V, Below w24.heap.size w24 V → Calls Try.prog 20 #[.slice A a.length ka, .agg #[.int .i64 x, .int .i64 y, .int .i64 z]] V fun e V' => e = .returned (.bool ia) ∧ Below V.heap.size V V' := fun V hV => by
        have := has_ok a _ x y z V ((hS24.below hV).tl.tl.tl.tl.tl.tl.tl.tl.hd).1 (by have := chk_len Hca.out; omega)
        rwa [show decide ((x, y, z) ∈ a) = ia by exact iA] at this
      have qB : ∀ V, Below w24.heap.size w24 V → Calls Try.prog 20 #[.slice D b.length kb, .agg #[.int .i64 x, .int .i64 y, .int .i64 z]] V fun e V' => e = .returned (.bool ib) ∧ Below V.heap.size V V' := fun V hV => by
        have := has_ok b _ x y z V ((hS24.below hV).tl.tl.tl.tl.tl.tl.tl.tl.tl.hd).1 (by have := chk_len Hcb.out; omega)
        rwa [show decide ((x, y, z) ∈ b) = ib by exact iB] at this
      have qU : ∀ V, Below w24.heap.size w24 V → Calls Try.prog 20 #[.slice AU out.length kU, .agg #[.int .i64 x, .int .i64 y, .int .i64 z]] V fun e V' => e = .returned (.bool (ia || ib)) ∧ Below V.heap.size V V' := fun V hV => by
        have := has_ok out _ x y z V ((hS24.below hV).tl.tl.tl.tl.tl.tl.tl.hd).1 (by have := chk_len Hcu.out; omega)
        rwa [show decide ((x, y, z) ∈ out) = (ia || ib) by exact iU] at this
      have qC : ∀ V, Below w24.heap.size w24 V → Calls Try.prog 20 #[.slice AC C.length kC, .agg #[.int .i64 x, .int .i64 y, .int .i64 z]] V fun e V' => e = .returned (.bool (ia && ib)) ∧ Below V.heap.size V V' := fun V hV => by
        have := has_ok C _ x y z V ((hS24.below hV).tl.tl.tl.tl.tl.tl.hd).1 (by have := chk_len HcC.out; omega)
        rwa [show decide ((x, y, z) ∈ C) = (ia && ib) by exact iC] at this
      have qL : ∀ V, Below w24.heap.size w24 V → Calls Try.prog 20 #[.slice AL L.length kL, .agg #[.int .i64 x, .int .i64 y, .int .i64 z]] V fun e V' => e = .returned (.bool (ia && !ib)) ∧ Below V.heap.size V V' := fun V hV => by
        have := has_ok L _ x y z V ((hS24.below hV).tl.tl.tl.tl.tl.hd).1 (by have := chk_len HcL.out; omega)
        rwa [show decide ((x, y, z) ∈ L) = (ia && !ib) by exact iL] at this
      clear iA iB iU iC iL hmU mC mL hS23 hB23 hS22 hB22 hBr hBa hS24 hc hlt hbq
      go_upto_region 23 with fail
      rw [← hw24]
      clear hw24 r0 r1 r2
      have hX : Below w24.heap.size w24 w24.drew := (Below.refl _ _).drew
      have hky := hkk _ hX
      go_region_held3 (fun w' => w'.cell? ⟨w23.heap.size, 0, none⟩ = some (.int .i64 x) ∧ w'.cell? ⟨w23.heap.size, 1, none⟩ = some (.int .i64 y) ∧ w'.cell? ⟨w23.heap.size, 2, none⟩ = some (.int .i64 z)) (first | exact hky | exact ⟨d0, d1, d2⟩ | go_keep)
        (first | (go_at_call 20; (first | with_reducible refine (qA _ hX).mono ?_ | with_reducible refine (qB _ hX).mono ?_); rintro e w25 ⟨rfl, hB25⟩; have hX := hX.trans (hB25.mono hX.size); have hky := hkk _ hX))
      rename_i hHeld
      clear hHeld d0 d1 d2
      obtain ⟨d0, d1, d2⟩ := hky
      clear hky qA qB hB25
      rename Below w24.heap.size w24 w25 => hX25
      have hB24' := hB24
      clear hB24 lTU lU hk hU40 hU hn
      cases ia <;> cases ib
      all_goals (
        simp only [Bool.or_true, Bool.or_false] at qU
        simp only [Bool.and_true, Bool.and_false] at qC
        simp only [Bool.not_true, Bool.not_false, Bool.and_true, Bool.and_false] at qL
        go_wp2_with fail
        refine (qU _ hX25).mono ?_
        rintro e w26 ⟨rfl, hB26⟩
        have hX26 := hX25.trans (hB26.mono hX25.size)
        clear d0 d1 d2
        obtain ⟨d0, d1, d2⟩ := hkk _ hX26
        go_wp2_with fail
        refine (qC _ hX26).mono ?_
        rintro e w27 ⟨rfl, hB27⟩
        have hX27 := hX26.trans (hB27.mono hX26.size)
        clear d0 d1 d2
        obtain ⟨d0, d1, d2⟩ := hkk _ hX27
        go_wp2_with fail
        refine (qL _ hX27).mono ?_
        rintro e w28 ⟨rfl, hB28⟩
        have hX28 := hX27.trans (hB28.mono hX27.size)
        clear d0 d1 d2
        go_wp2_with fail
        exact ⟨⟨k + 1, hkn, rfl, hB24'.trans (hX28.mono hB24'.size)⟩, by simp [intOf]; omega⟩)
    · subst hkn
      clear hk hBr hbx hX22 hS22 hB22 HNO HNA HNB HNE hmU mC mL
      go_wp2_with fail
      refine (turnX HTA.out hS23.tl.tl.tl.tl.tl.tl.tl.tl.hd Hca.out an hn).mono ?_
      rintro e w24 ⟨AT, kT, rfl, hSn, hBn⟩
      have hS24 := (hS23.below hBn).cons hSn
      have hB24 := hB23.trans (hBn.mono hB23.size)
      clear hS23 hB23 hBn hSn
      go_wp2_with fail
      refine (turnX HTB.out hS24.tl.tl.tl.tl.tl.tl.tl.tl.tl.tl.hd Hcb.out bn hn).mono ?_
      rintro e w25 ⟨AV, kV, rfl, hSn, hBn⟩
      have hS25 := (hS24.below hBn).cons hSn
      have hB25 := hB24.trans (hBn.mono hB24.size)
      clear hS24 hB24 hBn hSn
      go_wp2_with fail
      refine (turnX HTU.out hS25.tl.tl.tl.tl.tl.tl.tl.tl.tl.hd Hcu.out un hn).mono ?_
      rintro e w26 ⟨AY, kY, rfl, hSn, hBn⟩
      have hS26 := (hS25.below hBn).cons hSn
      have hB26 := hB25.trans (hBn.mono hB25.size)
      clear hS25 hB25 hBn hSn
      go_wp2_with fail
      refine (chkS hS26.tl.tl.hd HcTA.out).mono ?_
      rintro e w27 ⟨rfl, hBn⟩
      have hS27 := hS26.below hBn
      have hB27 := hB26.trans (hBn.mono hB26.size)
      clear hS26 hB26 hBn
      go_wp2_with fail
      refine (chkS hS27.tl.hd HcTB.out).mono ?_
      rintro e w28 ⟨rfl, hBn⟩
      have hS28 := hS27.below hBn
      have hB28 := hB27.trans (hBn.mono hB27.size)
      clear hS27 hB27 hBn
      go_wp2_with fail
      refine (unionS hS28.tl.tl.hd hS28.tl.hd HcTA.out HcTB.out upTU mTU lTU).mono ?_
      rintro e w29 ⟨AZ, kZ, rfl, hSn, hBn⟩
      have hS29 := (hS28.below hBn).cons hSn
      have hB29 := hB28.trans (hBn.mono hB28.size)
      clear hS28 hB28 hBn hSn
      go_wp2_with fail
      refine (sameX rfl hS29.hd hS29.tl.hd HcTU.out).mono ?_
      rintro e w30 ⟨rfl, hBn⟩
      have hS30 := hS29.below hBn
      have hB30 := hB29.trans (hBn.mono hB29.size)
      clear hS29 hB29 hBn
      go_wp2_with fail
      refine (waxRing_ok _).mono ?_
      rintro e w31 ⟨rfl, hBn⟩
      have hS31 := hS30.below hBn
      have hB31 := hB30.trans (hBn.mono hB30.size)
      clear hS30 hB30 hBn
      go_wp2_with fail
      go_ret
      exact ⟨rfl, hB31⟩
end Go.Proofs
