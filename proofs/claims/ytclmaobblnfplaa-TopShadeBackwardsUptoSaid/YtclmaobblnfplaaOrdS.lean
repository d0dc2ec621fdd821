/- Jobs: Starts of shop. -/
import Derived.Test.YtclmaobblnfplaaOrdA
import Derived.Test.YtclmaobblnfplaaJobK
namespace Go.Proofs
open Go.RowKit Go.MapKept
set_option maxHeartbeats 16000000
set_option maxRecDepth 1000000
def Off (g : Nat) (v : Value) : Prop := ∀ (a : Addr) (n c : Nat), v = .slice (some a) n c → a.block ≠ g
theorem SlI.off {w w' : World} {v : Value} {l : List Int} {g : Nat} (h : SlI w v l) (ho : Off g v) (hs : w.heap.size ≤ w'.heap.size) (hb : ∀ b, b < w.heap.size → b ≠ g → w'.heap[b]? = w.heap[b]?) : SlI w' v l := by
  rcases h with h | ⟨a, cap, rfl, h⟩
  · exact .inl h
  · refine .inr ⟨a, cap, rfl, fun hl => ?_⟩
    obtain ⟨h1, h2, h3⟩ := h hl
    refine ⟨h1, Nat.lt_of_lt_of_le h2 hs, fun i x hi => ?_⟩
    have h4 := h3 i x hi
    exact (show w'.cell? ⟨a.block, a.off + i, none⟩ = w.cell? ⟨a.block, a.off + i, none⟩ from World.cell?_of_block (w := w) (hb a.block h2 (ho a _ _ rfl))).trans h4
/-- A row of a call's own whose slices read as a list of lists. -/
def SchRow (w : World) (g : Nat) (S : List (List Int)) : Prop := ∃ cs : List Value, RowK w 23 g cs ∧ cs.length = S.length ∧ ∀ (i : Nat) (x : List Int), S[i]? = some x → ∃ v, cs[i]? = some v ∧ SlI w v x ∧ Off g v
theorem SchRow.below {w w' : World} {g : Nat} {S : List (List Int)} (h : SchRow w g S) (hb : Below w.heap.size w w') : SchRow w' g S := by
  obtain ⟨cs, h1, h2, h3⟩ := h
  refine ⟨cs, h1.below hb, h2, fun i x hi => ?_⟩
  obtain ⟨v, h4, h5, h6⟩ := h3 i x hi
  exact ⟨v, h4, h5.below hb, h6⟩
theorem SchRow.set {w : World} {g : Nat} {S : List (List Int)} (h : SchRow w g S) {i : Nat} {v : Value} {x : List Int} (hi : i < S.length) (hv : SlI w v x) (ho : Off g v) : SchRow (w.setCell ⟨g, i, none⟩ v) g (S.set i x) := by
  obtain ⟨cs, h1, h2, h3⟩ := h
  have hs : w.heap.size ≤ (w.setCell ⟨g, i, none⟩ v).heap.size := by simp [World.setCell]
  have hb : ∀ b, b < w.heap.size → b ≠ g → (w.setCell ⟨g, i, none⟩ v).heap[b]? = w.heap[b]? := fun b _ hne => Below.heap_setCell w ⟨g, i, none⟩ v b hne
  refine ⟨cs.set i v, h1.set i v, by simp [h2], fun k y hk => ?_⟩
  by_cases he : i = k
  · subst he
    rw [List.getElem?_set_self hi] at hk
    obtain rfl := Option.some.inj hk
    exact ⟨v, List.getElem?_set_self (by omega), hv.off ho hs hb, ho⟩
  · rw [List.getElem?_set_ne he] at hk
    obtain ⟨u, h4, h5, h6⟩ := h3 k y hk
    exact ⟨u, by rw [List.getElem?_set_ne he]; exact h4, h5.off h6 hs hb, h6⟩
theorem SchRow.sl {w : World} {g cap : Nat} {S : List (List Int)} (h : SchRow w g S) : SlLL w (.slice (some ⟨g, 0, none⟩) S.length cap) S := by
  obtain ⟨cs, h1, h2, h3⟩ := h
  refine .inr ⟨_, cap, rfl, fun _ => ⟨rfl, h1.lt, fun i x hi => ?_⟩⟩
  obtain ⟨v, h4, h5, -⟩ := h3 i x hi
  exact ⟨v, by rw [Nat.zero_add]; exact h1.cell h4, h5⟩
theorem OwnI.off {T : TypeId} {w : World} {B g : Nat} {v : Value} {l : List Int} (h : OwnI T w B v l) (hg : g < B) : Off g v := fun a n c e => by
  rcases h.form with ⟨h1, -⟩ | ⟨g2, c2, h1, h2, -, -⟩
  · rw [h1] at e; cases e
  · rw [h1] at e
    injection e with e1
    injection e1 with e1
    rw [← e1]
    show g2 ≠ g
    omega
theorem shStsA_ok (js : List JobT) (v vo : Value) (n : Int) (w : World) (hl : SlJ w v js) (hs : ∀ j ∈ js, j.2.1.length ≤ 1000 ∧ j.2.2.length ≤ 1000) (hx : JobX js n) (hn : n ≠ 0) :
    Calls Try.prog 17 #[v, vo] w fun e w' => e = .returned (.tuple #[.slice none 0 0, .int .i64 n]) ∧ Below w.heap.size w w' := by
  have k1 := shJobN_ok js v n w hl hs hx
  have hnz : (n != 0) = true := by simpa using hn
  clear hl hs hx hn
  go_enter Try.func17, Try.ntmps17
  go_wp2_with (go_at_call 20; refine k1.mono ?_; rintro e w1 ⟨rfl, hB⟩)
  go_ret2
  exact ⟨rfl, hB⟩
theorem shStsB_ok (js : List JobT) (o : List Int) (v vo : Value) (n : Int) (w : World) (hl : SlJ w v js) (hs : ∀ j ∈ js, j.2.1.length ≤ 1000 ∧ j.2.2.length ≤ 1000) (hx : JobX js 0) (ho : SlI w vo o) (hol : o.length ≤ 1000) (hn : OrdX o js.length n) (hz : n ≠ 0) :
    Calls Try.prog 17 #[v, vo] w fun e w' => e = .returned (.tuple #[.slice none 0 0, .int .i64 n]) ∧ Below w.heap.size w w' := by
  have k1 := shJobN_ok js v 0 w hl hs hx
  have k2 := fun W (h : Below w.heap.size w W) => shCheckOrder_ok o js.length vo W (ho.below h) hol
  obtain ⟨A, c, rfl⟩ := hl.form
  have hnz : (n != 0) = true := by simpa using hz
  have HO := Lib.hid hn
  clear hl hs hx hn ho hz
  go_enter Try.func17, Try.ntmps17
  go_wp2_with fail
  refine k1.mono ?_
  rintro e w1 ⟨rfl, hB⟩
  go_wp2_with fail
  refine (k2 _ hB).mono ?_
  rintro e w2 ⟨⟨x, rfl, hx⟩, hv2⟩
  obtain rfl : w1 = w2 := hv2.symm
  obtain rfl := HO.out.same hx
  clear k1 k2
  go_wp2_with fail
  go_ret2
  exact ⟨rfl, hB⟩
theorem shStsC_ok (js : List JobT) (p : List Nat) (v vo : Value) (w : World) (hl : SlJ w v js) (hs : ∀ j ∈ js, j.2.1.length ≤ 1000 ∧ j.2.2.length ≤ 1000) (hx : JobX js 0) (ho : SlI w vo (ints p)) (hp : OrdN js.length p) :
    Calls Try.prog 17 #[v, vo] w fun e w' => (∃ g, e = .returned (.tuple #[.slice (some ⟨g, 0, none⟩) js.length js.length, .int .i64 0]) ∧ w.heap.size ≤ g ∧ SchRow w' g (schP js (stN js) p)) ∧ Below w.heap.size w w' := by
  have k1 := shJobN_ok js v 0 w hl hs hx
  have ok := hx.ok
  have hpl := hp.len
  have hil : (ints p).length = js.length := by rw [ints_len, hpl]
  have hfew := ok.few
  have hpos := ok.pos
  have hOX : OrdX (ints p) js.length 0 := .inr ⟨hil, .inl ⟨⟨p, rfl, by rw [ints_len, hpl]; exact hp⟩, rfl⟩⟩
  have k2 := fun W (h : Below w.heap.size w W) => shCheckOrder_ok (ints p) js.length vo W (ho.below h) (by omega)
  obtain ⟨m, hm⟩ : ∃ m, m = stN js := ⟨_, rfl⟩
  rw [← hm] at ok ⊢
  have hm8 : 0 < m ∧ m ≤ 8 := by
    obtain ⟨j0, hj0⟩ : ∃ j, js[0]? = some j := ⟨_, List.getElem?_eq_getElem hpos⟩
    have hjo0 := ok.ok _ (List.mem_of_getElem? hj0)
    have h1 := hjo0.d
    have h2 := hjo0.few
    omega
  obtain ⟨bJ, oJ, cap, rfl, hbJ, hat⟩ := hl.addr hpos
  obtain ⟨⟨nm0, t0, d0⟩, hj0⟩ : ∃ j, js[0]? = some j := ⟨_, List.getElem?_eq_getElem hpos⟩
  obtain ⟨vt0, vd0, -, q1, -, qt, -⟩ := hat 0 _ hj0
  dsimp only at q1 qt
  rw [Nat.zero_mul, Nat.add_zero] at q1
  have hm0 : t0.length = m := by rw [hm]; unfold stN; rw [hj0]
  have kSt := fun W (h : Below w.heap.size w W) => stations_ok vt0 t0 bJ oJ js.length cap W ((h.cell (p := ⟨bJ, oJ + 1, none⟩) hbJ).trans q1) (qt.below h) hpos
  rw [hm0] at kSt
  have hmake := make8 hm8.2
  obtain ⟨Ao, co, rfl⟩ := ho.form
  rw [hil] at ho k2 ⊢
  obtain ⟨jj, hj, hy0, hy1, hy2⟩ := info_parts (P := Try.prog) (e := 23) (z := .slice none 0 0) (size := 1) (bytes := 24) (by kernel_rfl)
  have HO := Lib.hid hOX
  have HP := Lib.hid hp
  have HOK := Lib.hid ok
  have HAT := Lib.hid hat
  have HIL := Lib.hid hil
  clear hs hx hOX hl hat hj0 q1 qt hm0 hm hpl
  go_enter Try.func17, Try.ntmps17
  go_wp2_with fail
  refine k1.mono ?_
  rintro e w1 ⟨rfl, hX⟩
  go_wp2_with fail
  refine (k2 _ hX).mono ?_
  rintro e w2 ⟨⟨x, rfl, hx⟩, hv2⟩
  obtain rfl : w1 = w2 := hv2.symm
  obtain rfl := HO.out.same hx
  clear k1 k2 hx
  go_wp2_with (at_make; refine wpList_make_full _ rfl _ _ 48 rfl w.heap.size 23 jj _ 1 Try.underlying48 hj hy0 hy1 .i64 .i64 _ _ js.length rfl rfl rfl rfl ?c1 ?c2 ?c3 ?_)
  case c1 => rw [hy2]; omega
  case c2 => unfold maxLen; omega
  case c3 => exact hX.size
  intro w2 hown hgrow
  have hX2 : Below w.heap.size w w2 := hX.grown hgrow hX.size (fun k hk => by cases hk)
  have hK := RowK.made hown
  have hlen := hown.1
  have hnil : ∀ i, i < js.length → (madeCells #[Value.slice none 0 0] js.length).toList[i]? = some (.slice none 0 0) := fun i hi => by
    rw [Array.getElem?_toList]
    simp [madeCells, hi, Nat.mod_one]
  have hrow0 : SchRow w2 w1.heap.size (schK js m p 0) := ⟨_, hK, by simpa [schK] using hlen, fun i x hi => by
    simp only [schK] at hi
    rw [List.getElem?_replicate] at hi
    split at hi
    · rename_i hil
      obtain rfl := Option.some.inj hi
      exact ⟨_, hnil i hil, .inl ⟨rfl, rfl⟩, fun a n c e => by cases e⟩
    · cases hi⟩
  have hgl := hK.lt
  clear hgrow hown hK hlen hnil
  go_wp2_with fail
  refine (kSt _ hX2).mono ?_
  rintro e v5 ⟨rfl, hv5⟩
  obtain rfl : w2 = v5 := hv5.symm
  have hz := zeros_own hm8.2 w2 w2.heap.size (Nat.le_refl _)
  obtain ⟨w3, hW3⟩ : ∃ w3, w3 = w2.alloc (.cells (List.replicate m (Value.int .i64 0)).toArray 3) := ⟨_, rfl⟩
  have hX23 : Below w2.heap.size w2 w3 := by subst hW3; exact (Below.refl _ _).alloc (Nat.le_refl _) _
  rw [← hW3] at hz
  have hrow := hrow0.below hX23
  have hX3 := hX2.trans (hX23.mono hX2.size)
  have hg0 : w1.heap.size < w2.heap.size := hgl
  have hfree : OwnI 3 w3 (w1.heap.size + 1) (.slice (some ⟨w2.heap.size, 0, none⟩) m m) (freeP js (List.replicate m 0) (p.take 0)) := hz.lower hg0
  have HW3 := Lib.hid (show w3 = w2.alloc (.cells (Array.replicate m (Value.int .i64 0)) 3) by rw [hW3]; simp)
  have HWG := Lib.hid (show w.heap.size ≤ w1.heap.size from hX.size)
  have hgl3 : w1.heap.size < w3.heap.size := Nat.lt_of_lt_of_le hg0 hX23.size
  generalize w1.heap.size = g at *
  clear hz hrow0 hX23 hX2 hX hg0 hW3 kSt
  go_wp2_with fail
  rw [← HW3.out]
  go_loopw [9, 32] (fun fv i wr => ∃ k : Nat, k ≤ js.length ∧ i = .int .i64 k ∧ OwnI 3 wr (g + 1) fv (freeP js (List.replicate m 0) (p.take k)) ∧ SchRow wr g (schK js m p k) ∧ g < wr.heap.size ∧ Below w.heap.size w wr) (fun _ i _ => js.length - (intOf i).toNat)
  case atStart => exact ⟨0, Nat.zero_le _, rfl, hfree, hrow, hgl3, hX3⟩
  case round =>
    clear hfree hrow hX3 hgl3 hgl
    obtain ⟨k, hk, rfl, hfree, hrow, hgl, hX⟩ := hrel
    rename World => w4
    rcases Nat.lt_or_eq_of_le hk with hkn | rfl
    · obtain ⟨i, hi⟩ : ∃ i, p[k]? = some i := ⟨_, List.getElem?_eq_getElem (by rw [HP.out.len]; exact hkn)⟩
      have hin := HP.out.lt i (List.mem_of_getElem? hi)
      obtain ⟨hji, hjm⟩ := jobK_mem hin
      obtain ⟨vt, vd, j0, j1, j2, ht, hd⟩ := HAT.out i _ hji
      have hjo := HOK.out.ok _ hjm
      have hfo := free_take (m := m) HOK.out.ok HP.out.lt k
      have hso := (starts_bd hjo hfo).1
      have hgo : freeP js (List.replicate m 0) (p.take (k + 1)) = endsP (jobK js i).2.1 (startsP (jobK js i).2.1 (jobK js i).2.2 (freeP js (List.replicate m 0) (p.take k))) := by
        rw [take_snoc hi, freeP_snoc]
        rfl
      have hsu := schK_succ (js := js) (m := m) hi
      obtain ⟨bo, oo, x, hA, -, hbo, hx, rx⟩ := (ho.below hX).cells (k := k) (by rw [HIL.out]; exact hkn)
      subst hA
      obtain ⟨i2, hi2, rfl⟩ := ints_get hx
      obtain rfl := Option.some.inj (hi.symm.trans hi2)
      obtain ⟨jk, hjk⟩ : ∃ jk, jk = jobK js i := ⟨_, rfl⟩
      rw [← hjk] at hji hjm j0 ht hd hjo hso hgo hsu
      obtain ⟨nm, t, d⟩ := jk
      dsimp only at j0 ht hd hso hgo hsu
      obtain ⟨fr, hfr⟩ : ∃ fr, fr = freeP js (List.replicate m 0) (p.take k) := ⟨_, rfl⟩
      rw [← hfr] at hfo hso hgo hsu hfree
      have hScl : (schK js m p k).length = js.length := schK_len ..
      obtain ⟨SK, hSK⟩ : ∃ SK, SK = schK js m p k := ⟨_, rfl⟩
      rw [← hSK] at hrow hsu hScl
      have HSU := Lib.hid (And.intro hsu hgo)
      obtain ⟨Af, cf, rfl⟩ := hfree.sl.form
      obtain ⟨At, ct, rfl⟩ := ht.form
      obtain ⟨Ad, cd, rfl⟩ := hd.form
      obtain ⟨cs, hK, hcl, hcs⟩ := id hrow
      obtain ⟨v0, hv0⟩ : ∃ v0, cs[i]? = some v0 := ⟨_, List.getElem?_eq_getElem (by omega)⟩
      have kS := fun W (h : Below w4.heap.size w4 W) => starts_ok nm _ _ _ t d fr m _ W ((ht.below hX).below h) ((hd.below hX).below h) (hfree.sl.below h) hjo hfo hm8.1 (by have := HP.out.len; omega)
      have r0 := (hX.cell (p := ⟨bJ, oJ + i * 3, none⟩) hbJ).trans j0
      have r1 := (hX.cell (p := ⟨bJ, oJ + i * 3 + 1, none⟩) hbJ).trans j1
      have r2 := (hX.cell (p := ⟨bJ, oJ + i * 3 + 2, none⟩) hbJ).trans j2
      have hi0 : (0 : Int) ≤ i := by omega
      have hi1 : (i : Int) < js.length := by omega
      have hk1 : (k : Int) < js.length := by omega
      have HK := Lib.hid (show k + 1 ≤ js.length from hkn)
      have HM := Lib.hid (show js.length - (k + 1) < js.length - k by omega)
      have HWK := Lib.hid (wrapsV (show k < 1048576 by omega))
      unfold jobV at kS
      have HTD := Lib.hid (And.intro ht hd)
      have HROW := Lib.hid hrow
      have HJ := Lib.hid (And.intro j0 (And.intro j1 j2))
      have HSO := Lib.hid (And.intro hjo hso)
      have HCL := Lib.hid (show i < SK.length by omega)
      clear hx hi hi2 hji hjm j0 j1 j2 ht hd hjo hfo hso hgo hsu hjk hfr hcs hScl hSK
      go_wp2_with fail
      refine (kS _ (Below.refl _ _)).mono ?_
      rintro e w5 ⟨⟨u, rfl, hu⟩, hB5⟩
      obtain ⟨Au, cu, hue⟩ := hu.sl.form
      subst hue
      have hK5 := hK.below hB5
      have fz := hK5.fz
      have o0 := hK5.cell hv0
      have hus := hu.sl
      have huo := hu.off hgl
      have hrow6 := (HROW.out.below hB5).set HCL.out hus huo
      obtain ⟨w6, hW6⟩ : ∃ w6, w6 = w5.setCell ⟨g, i, none⟩ (.slice Au (startsP t d fr).length cu) := ⟨_, rfl⟩
      have hX5 := hX.trans (hB5.mono hX.size)
      have hX6 : Below w.heap.size w w6 := by rw [hW6]; exact hX5.setCell HWG.out _
      rw [← hW6] at hrow6
      have hs6 : w6.heap.size = w5.heap.size := by rw [hW6]; simp [World.setCell]
      have ho6 : ∀ b, b ≠ g → w6.heap[b]? = w5.heap[b]? := fun b hb => by rw [hW6]; exact Below.heap_setCell w5 ⟨g, i, none⟩ (.slice Au (startsP t d fr).length cu) b hb
      have hus6 : SlI w6 (.slice Au (startsP t d fr).length cu) (startsP t d fr) := hus.off huo (by rw [hs6]; exact Nat.le_refl _) fun b _ hb => ho6 b hb
      have hgw : ∀ b, b < w.heap.size → b ≠ g := fun b hb e => by have := HWG.out; omega
      have kE := fun W (h : Below w6.heap.size w6 W) => ends_ok nm _ (.slice Ad d.length cd) _ t d (startsP t d fr) m _ W ((HTD.out.1.below hX6).below h) (hus6.below h) HSO.out.1 HSO.out.2 (by have := HP.out.len; omega)
      have kk : ∀ V, Below w6.heap.size w6 V → (V.cell? ⟨bJ, oJ + i * 3, none⟩ = some (.string nm) ∧ V.cell? ⟨bJ, oJ + i * 3 + 1, none⟩ = some (.slice At t.length ct) ∧ V.cell? ⟨bJ, oJ + i * 3 + 2, none⟩ = some (.slice Ad d.length cd)) ∧ V.cell? ⟨g, i, none⟩ = some (.slice Au (startsP t d fr).length cu) := fun V h => by
        have h1 := hX6.trans (h.mono hX6.size)
        refine ⟨⟨(h1.cell (p := ⟨bJ, _, none⟩) hbJ).trans HJ.out.1, (h1.cell (p := ⟨bJ, _, none⟩) hbJ).trans HJ.out.2.1, (h1.cell (p := ⟨bJ, _, none⟩) hbJ).trans HJ.out.2.2⟩, ?_⟩
        obtain ⟨cs6, hK6, -, -⟩ := hrow6
        have e6 : w6.cell? ⟨g, i, none⟩ = some (.slice Au (startsP t d fr).length cu) := by
          rw [hW6]
          exact (hK5.set i (.slice Au (startsP t d fr).length cu)).cell (List.getElem?_set_self (by have := (List.getElem?_eq_some_iff.1 hv0).1; exact this))
        exact (h.cell (p := ⟨g, i, none⟩) hK6.lt).trans e6
      have HW6 := Lib.hid hW6
      unfold jobV at kE
      have hg6 : g < w6.heap.size := by rw [hs6]; exact Nat.lt_of_lt_of_le hgl hB5.size
      clear hW6 hs6 ho6 hgw hus hus6 huo hX5 hK
      go_wp2_with fail
      rw [← HW6.out]
      have hD := (Below.refl w6.heap.size w6).drew
      have hky := kk _ hD
      clear r0 r1 r2 fz o0 hK5
      go_region_held3 (fun V => (V.cell? ⟨bJ, oJ + i * 3, none⟩ = some (.string nm) ∧ V.cell? ⟨bJ, oJ + i * 3 + 1, none⟩ = some (.slice At t.length ct) ∧ V.cell? ⟨bJ, oJ + i * 3 + 2, none⟩ = some (.slice Ad d.length cd)) ∧ V.cell? ⟨g, i, none⟩ = some (.slice Au (startsP t d fr).length cu)) (first | exact hky | exact hky2 | go_keep)
        (first
          | (go_at_call 25; refine (kE _ hD).mono ?_; rintro e w7 ⟨⟨u2, rfl, hu2⟩, hQ7⟩; have hD7 := hD.trans (hQ7.mono hD.size); have hky2 := kk _ hD7; have hfr7 := hu2.lower (show g + 1 ≤ w6.drew.heap.size from hg6); have hrow7 := hrow6.below hD7; have hX7 := hX6.trans (hD7.mono hX6.size); have hg7 := Nat.lt_of_lt_of_le hg6 hD7.size))
      rename_i hHeld
      clear hHeld hky hky2 kE kk hD
      obtain ⟨wk1, wk2⟩ := HWK.out
      go_wp2_with fail
      go_roundw
      case rel => exact ⟨k + 1, HK.out, by simp, by rw [HSU.out.2]; exact hfr7, by rw [HSU.out.1]; exact hrow7, hg7, hX7⟩
      case measure => exact HM.out
    · have hrowE : SchRow w4 g (schP js m p) := by
        unfold schP
        rw [HP.out.len]
        exact hrow
      have HR := Lib.hid hrowE
      clear hrow hrowE hfree
      go_wp2_with fail
      go_ret2
      exact ⟨⟨g, rfl, HWG.out, HR.out⟩, hX⟩
end Go.Proofs
