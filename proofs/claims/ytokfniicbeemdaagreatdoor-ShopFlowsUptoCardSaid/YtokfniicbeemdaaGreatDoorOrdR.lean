/- Jobs: Starts of the reference. -/
import Derived.Test.YtokfniicbeemdaaGreatDoorOrdS
namespace Go.Proofs
open Go.RowKit Go.MapKept
set_option maxHeartbeats 16000000
set_option maxRecDepth 1000000
theorem SlI.off2 {w w' : World} {v : Value} {l : List Int} {g g1 : Nat} (h : SlI w v l) (ho : Off g v) (ho1 : Off g1 v) (hs : w.heap.size ≤ w'.heap.size) (hb : ∀ b, b < w.heap.size → b ≠ g → b ≠ g1 → w'.heap[b]? = w.heap[b]?) : SlI w' v l := by
  rcases h with h | ⟨a, cap, rfl, h⟩
  · exact .inl h
  · refine .inr ⟨a, cap, rfl, fun hl => ?_⟩
    obtain ⟨h1, h2, h3⟩ := h hl
    refine ⟨h1, Nat.lt_of_lt_of_le h2 hs, fun i x hi => ?_⟩
    have h4 := h3 i x hi
    exact (show w'.cell? ⟨a.block, a.off + i, none⟩ = w.cell? ⟨a.block, a.off + i, none⟩ from World.cell?_of_block (w := w) (hb a.block h2 (ho a _ _ rfl) (ho1 a _ _ rfl))).trans h4
/-- A row whose slices read as a list of lists, and lie in other blocks than two of the call's. -/
def SchR (w : World) (g g1 : Nat) (cs : List Value) (S : List (List Int)) : Prop := RowK w 23 g cs ∧ cs.length = S.length ∧ ∀ (i : Nat) (x : List Int), S[i]? = some x → ∃ v, cs[i]? = some v ∧ SlI w v x ∧ Off g v ∧ Off g1 v ∧ (x = [] → v = .slice none 0 0)
def FrY (V0 : World) (g g1 : Nat) (w : World) : Prop := V0.heap.size ≤ w.heap.size ∧ ∀ b, b < V0.heap.size → b ≠ g → b ≠ g1 → w.heap[b]? = V0.heap[b]?
theorem FrY.below {V0 : World} {g g1 : Nat} {w w' : World} (h : FrY V0 g g1 w) (hb : Below w.heap.size w w') : FrY V0 g g1 w' := ⟨Nat.le_trans h.1 hb.size, fun b h1 h2 h3 => (hb.block b (Nat.lt_of_lt_of_le h1 h.1)).trans (h.2 b h1 h2 h3)⟩
theorem schR_next {V0 w4 w' : World} {g g1 i : Nat} {cs : List Value} {SK : List (List Int)} {v : Value} {a : List Int} (h : SchR w4 g g1 cs SK) (hB : Below w4.heap.size w4 V0) (hf : FrY V0 g g1 w') (hg : g < V0.heap.size) (hg1 : g1 < V0.heap.size) (hi : i < cs.length) (hr : RowK w' 23 g (cs.set i v)) (ho : OwnI 3 w' V0.heap.size v a) (ha : 0 < a.length) : SchR w' g g1 (cs.set i v) (SK.set i a) := by
  obtain ⟨h1, h2, h3⟩ := h
  refine ⟨hr, by simp [h2], fun q x hq => ?_⟩
  by_cases he : i = q
  · subst he
    rw [List.getElem?_set_self (by omega)] at hq
    obtain rfl := Option.some.inj hq
    exact ⟨v, List.getElem?_set_self hi, ho.sl, ho.off hg, ho.off hg1, fun e => by rw [e] at ha; simp at ha⟩
  · rw [List.getElem?_set_ne he] at hq
    obtain ⟨u, h4, h5, h6, h7, h8⟩ := h3 q x hq
    exact ⟨u, by rw [List.getElem?_set_ne he]; exact h4, (h5.below hB).off2 h6 h7 hf.1 hf.2, h6, h7, h8⟩
theorem set_same {α : Type} {l : List α} {i : Nat} {x : α} (h : l[i]? = some x) : l.set i x = l := by
  refine List.ext_getElem? fun k => ?_
  by_cases he : i = k
  · subst he
    rw [List.getElem?_set_self (List.getElem?_eq_some_iff.1 h).1, h]
  · rw [List.getElem?_set_ne he]
def fK (t a fr : List Int) : Nat → List Int
  | 0 => fr
  | s + 1 => (fK t a fr s).set s (at0 a s + at0 t s)
theorem fK_len (t a fr : List Int) : ∀ s, (fK t a fr s).length = fr.length
  | 0 => rfl
  | s + 1 => by unfold fK; rw [List.length_set, fK_len t a fr s]
theorem fK_at (t a fr : List Int) : ∀ s, s ≤ fr.length → ∀ i, at0 (fK t a fr s) i = if i < s then at0 a i + at0 t i else at0 fr i
  | 0, _, i => by simp [fK]
  | s + 1, h, i => by
    unfold fK
    rw [at0_set (by rw [fK_len]; omega), fK_at t a fr s (by omega) i]
    by_cases he : i = s
    · subst he
      rw [if_pos rfl, if_pos (by omega)]
    · rw [if_neg he]
      by_cases h2 : i < s
      · rw [if_pos h2, if_pos (by omega)]
      · rw [if_neg h2, if_neg (by omega)]
theorem ext_at0 {a b : List Int} (hl : a.length = b.length) (h : ∀ i, at0 a i = at0 b i) : a = b := by
  refine List.ext_getElem? fun i => ?_
  have h1 := h i
  unfold at0 at h1
  by_cases hi : i < a.length
  · rw [List.getElem?_eq_getElem hi, List.getElem?_eq_getElem (by omega)] at h1 ⊢
    exact congrArg some h1
  · rw [List.getElem?_eq_none (by omega), List.getElem?_eq_none (by omega)]
theorem fK_all {m : Nat} {j : JobT} (hj : JobOk m j) {fr : List Int} (hf : fr.length = m) : fK j.2.1 (startsP j.2.1 j.2.2 fr) fr m = goJ j fr := by
  refine ext_at0 ?_ fun i => ?_
  · rw [fK_len]
    unfold goJ endsP
    rw [preE_len, startsP_len]
  · rw [fK_at _ _ _ _ (by omega), goJ_at hj hf]
    by_cases h : i < m
    · rw [if_pos h, if_pos h]
    · rw [if_neg h, if_neg h]
      have h1 : at0 fr i = 0 := by unfold at0; rw [List.getElem?_eq_none (by omega)]; rfl
      have h2 : at0 (startsP j.2.1 j.2.2 fr) i = 0 := by unfold at0; rw [List.getElem?_eq_none (by rw [startsP_len]; omega)]; rfl
      omega
def rdyK (t d a : List Int) : Nat → Int
  | 0 => 0
  | s + 1 => at0 a s + at0 t s + at0 d s
theorem rdy_max {m : Nat} {j : JobT} {fr : List Int} {B : Int} (hf : FreeOk m B fr) {s : Nat} (hs : s < m) : max (rdyK j.2.1 j.2.2 (startsP j.2.1 j.2.2 fr) s) (at0 fr s) = at0 (startsP j.2.1 j.2.2 fr) s := by
  cases s with
  | zero =>
    rw [startsP_0 _ _ _ (by rw [hf.1]; exact hs)]
    have := (hf.2 0).1
    show max 0 (at0 fr 0) = _
    omega
  | succ s =>
    rw [startsP_succ _ _ _ _ (by rw [hf.1]; exact hs)]
    show max (at0 (startsP j.2.1 j.2.2 fr) s + at0 j.2.1 s + at0 j.2.2 s) (at0 fr (s + 1)) = _
    omega
theorem refSts_ok (js : List JobT) (p : List Nat) (m : Nat) (v vo : Value) (w : World) (hl : SlJ w v js) (ok : JobsOk m js) (hmm : stN js = m) (ho : SlI w vo (ints p)) (hp : OrdN js.length p) :
    Calls Tryz.prog 31 #[v, vo] w fun e w' => (∃ u, e = .returned u ∧ SlLL w' u (schP js m p)) ∧ Below w.heap.size w w' := by
  have hpl := hp.len
  have hil : (ints p).length = js.length := by rw [ints_len, hpl]
  have hfew := ok.few
  have hpos := ok.pos
  have hm8 : 0 < m ∧ m ≤ 8 := by
    obtain ⟨j0, hj0⟩ : ∃ j, js[0]? = some j := ⟨_, List.getElem?_eq_getElem hpos⟩
    have hjo0 := ok.ok _ (List.mem_of_getElem? hj0)
    have h1 := hjo0.d
    have h2 := hjo0.few
    omega
  obtain ⟨bJ, oJ, cap, rfl, hbJ, hat⟩ := hl.addr hpos
  obtain ⟨⟨nm0, t0, d0⟩, hj0⟩ : ∃ j, js[0]? = some j := ⟨_, List.getElem?_eq_getElem hpos⟩
  obtain ⟨vt0, vd0, -, q1, -, qt, -⟩ := hat 0 _ hj0
  dsimp only at q1 qt
  rw [Nat.zero_mul, Nat.add_zero] at q1
  have hm0 : t0.length = m := by rw [← hmm]; unfold stN; rw [hj0]
  obtain ⟨At0, ct0, rfl⟩ := qt.form
  rw [hm0] at q1 qt
  have hmake := make8 hm8.2
  obtain ⟨Ao, co, rfl⟩ := ho.form
  rw [hil] at ho ⊢
  obtain ⟨jj, hj, hy0, hy1, hy2⟩ := info_parts (P := Tryz.prog) (e := 23) (z := .slice none 0 0) (size := 1) (bytes := 24) (by kernel_rfl)
  have HP := Lib.hid hp
  have HOK := Lib.hid ok
  have HAT := Lib.hid hat
  have HIL := Lib.hid hil
  have hn1 : (0 : Int) < js.length := by omega
  have hB0 := Below.refl w.heap.size w
  clear hl hat hj0 qt hm0 hmm hpl
  go_enter Tryz.func31, Tryz.ntmps31
  go_wp2_with (at_make; refine wpList_make_full _ rfl _ _ 48 rfl w.heap.size 23 jj _ 1 Tryz.underlying48 hj hy0 hy1 .i64 .i64 _ _ js.length rfl rfl rfl rfl ?c1 ?c2 ?c3 ?_)
  case c1 => rw [hy2]; omega
  case c2 => unfold maxLen; omega
  case c3 => exact Nat.le_refl _
  intro w2 hown hgrow
  have hX2 : Below w.heap.size w w2 := hB0.grown hgrow (Nat.le_refl _) (fun k hk => by cases hk)
  have hK := RowK.made hown
  have hlen := hown.1
  have hnil : ∀ i, i < js.length → (madeCells #[Value.slice none 0 0] js.length).toList[i]? = some (.slice none 0 0) := fun i hi => by
    rw [Array.getElem?_toList]
    simp [madeCells, hi, Nat.mod_one]
  generalize (madeCells #[Value.slice none 0 0] js.length).toList = Z at hK hlen hnil
  have hgl := hK.lt
  obtain ⟨w3, hW3⟩ : ∃ w3, w3 = w2.alloc (.cells (List.replicate m (Value.int .i64 0)).toArray 3) := ⟨_, rfl⟩
  have hX23 : Below w2.heap.size w2 w3 := by subst hW3; exact (Below.refl _ _).alloc (Nat.le_refl _) _
  have hK1 : RowK w3 3 w2.heap.size ((freeP js (List.replicate m 0) (p.take 0)).map valI) := by
    have h1 : (freeP js (List.replicate m 0) (p.take 0)).map valI = List.replicate m (Value.int .i64 0) := by
      show (List.replicate m (0 : Int)).map valI = _
      rw [List.map_replicate]
      rfl
    rw [h1, hW3]
    exact heap_alloc_new w2 _
  have hrow : SchR w3 w.heap.size w2.heap.size Z (schK js m p 0) := ⟨hK.below hX23, by simpa [schK] using hlen, fun i x hi => by
    simp only [schK] at hi
    rw [List.getElem?_replicate] at hi
    split at hi
    · rename_i hil
      obtain rfl := Option.some.inj hi
      exact ⟨_, hnil i hil, .inl ⟨rfl, rfl⟩, fun a n c e => (by cases e), fun a n c e => (by cases e), fun _ => rfl⟩
    · cases hi⟩
  have hX3 := hX2.trans (hX23.mono hX2.size)
  have r1 := (hX2.cell (p := ⟨bJ, oJ + 1, none⟩) hbJ).trans q1
  have HW3 := Lib.hid (show w3 = w2.alloc (.cells (Array.replicate m (Value.int .i64 0)) 3) by rw [hW3]; simp)
  have hG : w.heap.size ≠ w2.heap.size := Nat.ne_of_lt hgl
  have HGW := Lib.hid (show w.heap.size ≤ w2.heap.size from hX2.size)
  clear hgrow hown hK hlen hnil hgl hX23 hX2 hB0 q1 hW3
  go_wp2_with fail
  rw [← HW3.out]
  generalize w2.heap.size = g1 at *
  clear r1
  go_loopw [7] (fun i wr => ∃ (k : Nat) (cs : List Value), k ≤ js.length ∧ i = .int .i64 k ∧ RowK wr 3 g1 ((freeP js (List.replicate m 0) (p.take k)).map valI) ∧ SchR wr w.heap.size g1 cs (schK js m p k) ∧ Below w.heap.size w wr) (fun i _ => js.length - (intOf i).toNat)
  case atStart => exact ⟨0, Z, Nat.zero_le _, rfl, hK1, hrow, hX3⟩
  case round =>
    clear hK1 hrow hX3 Z
    obtain ⟨k, cs, hk, rfl, hK1, hrow, hX⟩ := hrel
    rename World => w4
    rcases Nat.lt_or_eq_of_le hk with hkn | rfl
    · obtain ⟨i, hi⟩ : ∃ i, p[k]? = some i := ⟨_, List.getElem?_eq_getElem (by rw [HP.out.len]; exact hkn)⟩
      have hin := HP.out.lt i (List.mem_of_getElem? hi)
      obtain ⟨hji, hjm⟩ := jobK_mem hin
      obtain ⟨vt, vd, j0, j1, j2, ht, hd⟩ := HAT.out i _ hji
      have hjo := HOK.out.ok _ hjm
      have hfo := free_take (m := m) HOK.out.ok HP.out.lt k
      have hso := (starts_bd hjo hfo).1
      have hgo : freeP js (List.replicate m 0) (p.take (k + 1)) = goJ (jobK js i) (freeP js (List.replicate m 0) (p.take k)) := by
        rw [take_snoc hi, freeP_snoc]
        rfl
      have hsu := schK_succ (js := js) (m := m) hi
      obtain ⟨bo, oo, x, hA, -, hbo, hx, rx⟩ := ho.cells (k := k) (by rw [HIL.out]; exact hkn)
      subst hA
      obtain ⟨i2, hi2, rfl⟩ := ints_get hx
      obtain rfl := Option.some.inj (hi.symm.trans hi2)
      obtain ⟨jk, hjk⟩ : ∃ jk, jk = jobK js i := ⟨_, rfl⟩
      rw [← hjk] at hji hjm j0 ht hd hjo hso hgo hsu
      obtain ⟨fr, hfr⟩ : ∃ fr, fr = freeP js (List.replicate m 0) (p.take k) := ⟨_, rfl⟩
      rw [← hfr] at hfo hso hgo hsu hK1
      have hScl : (schK js m p k).length = js.length := schK_len ..
      have hnone : (schK js m p k)[i]? = some [] := by
        have := schK_at (m := m) HP.out.nd HP.out.lt k (by rw [HP.out.len]; exact hk) k i hi
        rwa [if_neg (Nat.lt_irrefl k)] at this
      obtain ⟨SK, hSK⟩ : ∃ SK, SK = schK js m p k := ⟨_, rfl⟩
      rw [← hSK] at hrow hsu hScl hnone
      have hfa := fK_all hjo hfo.1
      have hrm : ∀ s, s < m → max (rdyK jk.2.1 jk.2.2 (startsP jk.2.1 jk.2.2 fr) s) (at0 fr s) = at0 (startsP jk.2.1 jk.2.2 fr) s := fun s hs => rdy_max hfo hs
      rw [← hfa] at hgo
      obtain ⟨nm, t, d⟩ := jk
      dsimp only at j0 ht hd hso hgo hsu hfa hrm
      obtain ⟨a, ha⟩ : ∃ a, a = startsP t d fr := ⟨_, rfl⟩
      rw [← ha] at hso hgo hsu hfa hrm
      have HSU := Lib.hid (And.intro hsu hgo)
      have HRM := Lib.hid hrm
      have HFO := Lib.hid hfo
      have HSO := Lib.hid hso
      have HJO := Lib.hid hjo
      obtain ⟨At, ct, rfl⟩ := ht.form
      obtain ⟨Ad, cd, rfl⟩ := hd.form
      have hjt : t.length = m := hjo.t
      have hjd : d.length + 1 = m := hjo.d
      rw [hjt] at j1 ht
      obtain ⟨V0, hV0⟩ : ∃ V0, V0 = w4.alloc (.cells #[.string nm, .slice At m ct, .slice Ad d.length cd] 127) := ⟨_, rfl⟩
      have rj : RowK V0 127 w4.heap.size [.string nm, .slice At m ct, .slice Ad d.length cd] := by subst hV0; exact heap_alloc_new w4 _
      have hB4 : Below w4.heap.size w4 V0 := by subst hV0; exact (Below.refl _ _).alloc (Nat.le_refl _) _
      have hK1V := hK1.below hB4
      have hKV := hrow.1.below hB4
      have hXV := hX.trans (hB4.mono hX.size)
      have hg1 : g1 < w4.heap.size := hK1.lt
      have hg0 : w.heap.size < w4.heap.size := hrow.1.lt
      have r0 := (hX.cell (p := ⟨bJ, oJ + i * 3, none⟩) hbJ).trans j0
      have r1 := (hX.cell (p := ⟨bJ, oJ + i * 3 + 1, none⟩) hbJ).trans j1
      have r2 := (hX.cell (p := ⟨bJ, oJ + i * 3 + 2, none⟩) hbJ).trans j2
      have rx4 := (hX.cell (p := ⟨bo, oo + k, none⟩) hbo).trans rx
      have hi0 : (0 : Int) ≤ i := by omega
      have hi1 : (i : Int) < js.length := by omega
      have hk0 : (0 : Int) ≤ k := by omega
      have hk1 : (k : Int) < js.length := by omega
      have HK := Lib.hid (show k + 1 ≤ js.length from hkn)
      have HM := Lib.hid (show js.length - (k + 1) < js.length - k by omega)
      have HWK := Lib.hid (wrapsV (show k < 1048576 by omega))
      have HTD := Lib.hid (And.intro ht hd)
      have HROW := Lib.hid (And.intro hrow hB4)
      have HRX := Lib.hid rx
      have HJT := Lib.hid (And.intro hjt hjd)
      obtain ⟨v0, hv0, -, -, -, hv0e⟩ := hrow.2.2 i [] hnone
      obtain rfl := hv0e rfl
      have HCL := Lib.hid (show i < cs.length by have := hrow.2.1; omega)
      clear hx hi hi2 hji hjm j0 j1 j2 ht hd hjo hfo hso hgo hsu hjk hfr hScl hSK hnone hfa hrm ha hrow hK1 hB4 rx hjt hjd
      go_wp2_with fail
      rw [← hV0]
      have hg0V : w.heap.size < V0.heap.size := hKV.lt
      have hg1V : g1 < V0.heap.size := hK1V.lt
      have hjb : w4.heap.size ≠ w.heap.size := (Nat.ne_of_lt hg0).symm
      have hjb1 : w4.heap.size ≠ g1 := (Nat.ne_of_lt hg1).symm
      have hset : cs.set i (.slice none 0 0) = cs := set_same hv0
      go_loopw [9, 10] (fun rv sv wr => ∃ (s : Nat) (v : Value), s ≤ m ∧ sv = .int .i64 s ∧ rv = .int .i64 (rdyK t d a s) ∧ RowK wr 3 g1 ((fK t a fr s).map valI) ∧ RowK wr 23 w.heap.size (cs.set i v) ∧ OwnI 3 wr V0.heap.size v (a.take s) ∧ FrY V0 w.heap.size g1 wr ∧ Below w.heap.size w wr) (fun _ sv _ => m - (intOf sv).toNat)
      case atStart => exact ⟨0, .slice none 0 0, Nat.zero_le _, rfl, rfl, hK1V, by rw [hset]; exact hKV, OwnI.nil _ _ _, ⟨Nat.le_refl _, fun _ _ _ _ => rfl⟩, hXV⟩
      case round =>
        obtain ⟨s, v, hs, rfl, rfl, hK1, hKo, hown, hfy, hX5⟩ := hrel
        rename World => w5
        clear hK1V hKV hXV hset
        rcases Nat.lt_or_eq_of_le hs with hsn | rfl
        · have rj5 : RowK w5 127 w4.heap.size [.string nm, .slice At m ct, .slice Ad d.length cd] := rj.keep (hfy.2 _ rj.lt hjb hjb1)
          have hal : a.length = m := HSO.out.1
          have hfl : fr.length = m := HFO.out.1
          obtain ⟨bt, ot, z, hA, -, hbt, hz, rz⟩ := HTD.out.1.cells (k := s) (by have := HJT.out.1; omega)
          subst hA
          obtain ⟨y, hy⟩ : ∃ y, a[s]? = some y := ⟨_, List.getElem?_eq_getElem (by omega)⟩
          have hya := at0_some hy
          have hmx := HRM.out s hsn
          rw [hya] at hmx
          have hza := at0_some hz
          have hzb := HJO.out.tb z (List.mem_of_getElem? hz)
          have hyb := HSO.out.2 s
          rw [hya] at hyb
          have hpn := HP.out.len
          have hf0 : (fK t a fr s)[s]? = some (at0 fr s) := by
            obtain ⟨x, hx⟩ : ∃ x, (fK t a fr s)[s]? = some x := ⟨_, List.getElem?_eq_getElem (by rw [fK_len]; omega)⟩
            have h1 := fK_at t a fr s (by omega) s
            rw [at0_some hx, if_neg (Nat.lt_irrefl s)] at h1
            rw [hx, h1]
          have hfm : ((fK t a fr s).map valI)[s]? = some (.int .i64 (at0 fr s)) := by rw [List.getElem?_map, hf0]; rfl
          have c1 := hK1.cell hfm
          have hKn : ((fK t a fr s).map valI).set s (.int .i64 (y + z)) = (fK t a fr (s + 1)).map valI := by
            show _ = ((fK t a fr s).set s (at0 a s + at0 t s)).map valI
            rw [List.map_set, hya, hza]
            rfl
          have htk : a.take (s + 1) = a.take s ++ [y] := by rw [List.take_add_one, hy]; rfl
          have hrd : rdyK t d a (s + 1) = y + z + at0 d s := by
            show at0 a s + at0 t s + at0 d s = _
            rw [hya, hza]
          have hil2 : i < (cs.set i v).length := by rw [List.length_set]; exact HCL.out
          have co0 : (cs.set i v)[i]? = some v := List.getElem?_set_self HCL.out
          obtain ⟨r, hr⟩ : ∃ r, r = rdyK t d a s := ⟨_, rfl⟩
          rw [← hr] at hmx ⊢
          obtain ⟨f, hf⟩ : ∃ f, f = at0 fr s := ⟨_, rfl⟩
          rw [← hf] at hmx c1
          have rx5 := (hX5.cell (p := ⟨bo, oo + k, none⟩) hbo).trans HRX.out
          have rz5 := (hX5.cell (p := ⟨bt, ot + s, none⟩) hbt).trans rz
          have ok0 := hKo.cell co0
          have q1 := rj5.cell (i := 1) rfl
          have q2 := rj5.cell (i := 2) rfl
          have hs0 : (0 : Int) ≤ s := by omega
          have hs1 : (s : Int) < m := by omega
          have hbt1 : bt ≠ g1 := by have := HGW.out; omega
          have hbtg : bt ≠ w.heap.size := Nat.ne_of_lt hbt
          have hbog : bo ≠ w.heap.size := Nat.ne_of_lt hbo
          -- behind the alloc
          have hBb : Below w5.heap.size w5 (w5.alloc (.cells #[.int .i64 y] 3)).drew := ((Below.refl w5.heap.size w5).alloc (Nat.le_refl _) _).drew
          have hrowb : RowK (w5.alloc (.cells #[.int .i64 y] 3)).drew 3 w5.heap.size [.int .i64 y] := heap_alloc_new w5 _
          obtain ⟨wb, hwb⟩ : ∃ wb, wb = (w5.alloc (.cells #[.int .i64 y] 3)).drew := ⟨_, rfl⟩
          rw [← hwb] at hBb hrowb
          have hIK : IAt wb w5.heap.size 0 [y] := fun q x hi => by
            match q, hi with
            | 0, hi =>
              obtain rfl : y = x := by simpa using hi
              exact hrowb.cell (by rfl)
            | q + 1, hi => simp at hi
          have htl : (a.take s).length = s := by rw [List.length_take]; omega
          obtain ⟨A2, c2, wc, hap, hown2, hg, -, -⟩ := run_append_ints wb 23 V0.heap.size v (a.take s) [y] (hown.keep hBb) w5.heap.size 0 1 hIK (by simp) (by rw [htl]; simp; omega) (Nat.le_trans hfy.1 hBb.size)
          rw [htl, List.length_singleton] at hap hown2
          rw [← htk] at hown2
          have hvo : ∀ b, v.ownBlock = some b → V0.heap.size ≤ b := fun b e => (hown.lt b e).1
          have hBc : ∀ b, b < V0.heap.size → wc.heap[b]? = w5.heap[b]? := fun b hb => (hg.block b (Nat.lt_of_lt_of_le hb (Nat.le_trans hfy.1 hBb.size)) (fun e => by have := hvo b e.symm; omega)).trans (hBb.block b (Nat.lt_of_lt_of_le hb hfy.1))
          have hXc : Below w.heap.size w wc := (hX5.trans (hBb.mono hX5.size)).grown hg (hX5.trans (hBb.mono hX5.size)).size (fun b e => by have := hvo b e; omega)
          have hKoc := hKo.keep (hBc _ hg0V)
          have hK1c := hK1.keep (hBc _ hg1V)
          have fzc := hKoc.fz
          have okc := hKoc.cell co0
          have hSc := (hXc.cell (p := ⟨bo, oo + k, none⟩) hbo).trans HRX.out
          obtain ⟨w8, hw8⟩ : ∃ w8, w8 = wc.setCell ⟨w.heap.size, i, none⟩ (.slice A2 (s + 1) c2) := ⟨_, rfl⟩
          have hX8 : Below w.heap.size w w8 := by rw [hw8]; exact hXc.setCell (Nat.le_refl _) _
          have hs8 : w8.heap.size = wc.heap.size := by rw [hw8]; simp [World.setCell]
          have hb8 : ∀ b, b ≠ w.heap.size → w8.heap[b]? = wc.heap[b]? := fun b hb => by rw [hw8]; exact Below.heap_setCell wc ⟨w.heap.size, i, none⟩ _ b hb
          have hKo8 : RowK w8 23 w.heap.size (cs.set i (.slice A2 (s + 1) c2)) := by
            have := hKoc.set i (.slice A2 (s + 1) c2)
            rw [List.set_set, ← hw8] at this
            exact this
          have hK18 := hK1c.keep (hb8 g1 hG.symm)
          have hown8 : OwnI 3 w8 V0.heap.size (.slice A2 (s + 1) c2) (a.take (s + 1)) := hown2.keepB fun b e => hb8 b (by have := (hown2.lt b e).1; omega)
          have hfy8 : FrY V0 w.heap.size g1 w8 := ⟨by rw [hs8]; exact Nat.le_trans hfy.1 (Nat.le_trans hBb.size hg.size), fun b h1 h2 h3 => (hb8 b h2).trans ((hBc b h1).trans (hfy.2 b h1 h2 h3))⟩
          have hS8 := (hX8.cell (p := ⟨bo, oo + k, none⟩) hbo).trans HRX.out
          have rj8 : RowK w8 127 w4.heap.size [.string nm, .slice (some ⟨bt, ot, none⟩) m ct, .slice Ad d.length cd] := rj.keep (hfy8.2 _ rj.lt hjb hjb1)
          obtain ⟨w9, hw9⟩ : ∃ w9, w9 = w8.setCell ⟨g1, s, none⟩ (.int .i64 (y + z)) := ⟨_, rfl⟩
          have hX9 : Below w.heap.size w w9 := by rw [hw9]; exact hX8.setCell HGW.out _
          have hb9 : ∀ b, b ≠ g1 → w9.heap[b]? = w8.heap[b]? := fun b hb => by rw [hw9]; exact Below.heap_setCell w8 ⟨g1, s, none⟩ _ b hb
          have hs9 : w9.heap.size = w8.heap.size := by rw [hw9]; simp [World.setCell]
          have hK19 : RowK w9 3 g1 ((fK t a fr (s + 1)).map valI) := by
            have := hK18.set s (.int .i64 (y + z))
            rw [hKn, ← hw9] at this
            exact this
          have HREL : RowKit.Hid (RowK w9 3 g1 ((fK t a fr (s + 1)).map valI) ∧ RowK w9 23 w.heap.size (cs.set i (.slice A2 (s + 1) c2)) ∧ OwnI 3 w9 V0.heap.size (.slice A2 (s + 1) c2) (a.take (s + 1)) ∧ FrY V0 w.heap.size g1 w9 ∧ Below w.heap.size w w9) := Lib.hid ⟨hK19, hKo8.keep (hb9 _ hG), hown8.keepB fun b e => hb9 b (by have := (hown8.lt b e).1; omega), ⟨by rw [hs9]; exact hfy8.1, fun b h1 h2 h3 => (hb9 b h3).trans (hfy8.2 b h1 h2 h3)⟩, hX9⟩
          have f8 := hK18.fz
          have o8 := hK18.cell hfm
          rw [← hf] at o8
          have e1 := rj8.cell (i := 1) rfl
          have e2 := rj8.cell (i := 2) rfl
          have ez := (hX8.cell (p := ⟨bt, ot + s, none⟩) hbt).trans rz
          have HW8 := Lib.hid hw8
          have HW9 := Lib.hid hw9
          have HWB := Lib.hid hwb
          have HAP := Lib.hid hap
          have HSK := Lib.hid (show s + 1 ≤ m from hsn)
          have HSM := Lib.hid (show m - (s + 1) < m - s by omega)
          have HRD := Lib.hid hrd
          have HWS := Lib.hid (wrapsV (show s < 1048576 by omega))
          have HW2 := Lib.hid (wrapC2 (n := y + z) (by omega))
          have HDS : RowKit.Hid ((s + 1 < m ∧ ∃ bd od u, Ad = some ⟨bd, od, none⟩ ∧ bd < w.heap.size ∧ at0 d s = u ∧ w8.cell? ⟨bd, od + s, none⟩ = some (.int .i64 u) ∧ 0 ≤ u ∧ u ≤ 1440 ∧ (s : Int) < d.length) ∨ (d.length = s ∧ at0 d s = 0)) := Lib.hid (by
            have hdl := HJT.out.2
            by_cases hsd : s + 1 < m
            · obtain ⟨bd, od, u, hA, -, hbd, hu, ru⟩ := HTD.out.2.cells (k := s) (by omega)
              have hub := HJO.out.db u (List.mem_of_getElem? hu)
              exact .inl ⟨hsd, bd, od, u, hA, hbd, at0_some hu, (hX8.cell (p := ⟨bd, od + s, none⟩) hbd).trans ru, hub.1, hub.2, by omega⟩
            · exact .inr ⟨by omega, by unfold at0; rw [List.getElem?_eq_none (by omega)]; rfl⟩)
          have HYB := Lib.hid (And.intro hyb hzb)
          have HGB := Lib.hid (fun b => (show b < w.heap.size → b ≠ g1 from fun h => by have := HGW.out; omega))
          have HSPB : RowKit.Hid (wb.cell? ⟨bo, oo + k, none⟩ = some (.int .i64 i)) := Lib.hid ((hBb.cell (p := ⟨bo, oo + k, none⟩) (Nat.lt_of_lt_of_le hbo hX5.size)).trans rx5)
          have HVB : RowKit.Hid (wb.cell? ⟨w.heap.size, i, none⟩ = some v) := Lib.hid ((hBb.cell (p := ⟨w.heap.size, i, none⟩) hKo.lt).trans ok0)
          have hxd : w5.drew.cell? ⟨bo, oo + k, none⟩ = some (.int .i64 i) := rx5
          clear hz hy hya hza hzb hyb hf0 hfm hKn htk hrd hil2 co0 hr hf hBb hrowb hwb hIK htl hap hown2 hg hvo hBc hKoc hK1c hw8 hs8 hb8 hKo8 hK18 hown8 hfy8 rj8 hw9 hb9 hs9 hK19 hX9 hX8 hXc hown hfy hK1 hKo hal hfl hpn rj5 rz hX5
          rcases Int.lt_or_le r f with hrf | hrf
          case' inl =>
            obtain rfl : y = f := by omega
          case' inr =>
            obtain rfl : y = r := by omega
          all_goals (
            clear hmx
            go_wp2_with fail
            refine wp_region_held_drew (S := fun V => V.cell? ⟨bo, oo + k, none⟩ = some (.int .i64 i)) (by kernel_rfl) hxd (fun hHeld => ?_)
            refine held_yes 0 (some 47) (.slice (some ⟨w.heap.size, 0, none⟩) js.length js.length) rfl rfl (by kernel_rfl) (by kernel_rfl) (by kernel_rfl) (fun _ _ _ h => h) rfl (fun w' hS => by skip; go_simp) hHeld ?_
            try simp only [Act.put, List.setIfInBounds_toArray, List.set_cons_zero, List.set_cons_succ]
            refine held_yes 1 (some 48) (.slice (some ⟨bo, oo, none⟩) js.length co) rfl rfl (by kernel_rfl) (by kernel_rfl) (by kernel_rfl) (fun _ _ _ h => h) rfl (fun w' hS => by skip; go_simp) hHeld ?_
            try simp only [Act.put, List.setIfInBounds_toArray, List.set_cons_zero, List.set_cons_succ]
            refine held_yes 2 (some 49) (.int .i64 k) rfl rfl (by kernel_rfl) (by kernel_rfl) (by kernel_rfl) (fun _ _ _ h => h) rfl (fun w' hS => by skip; go_simp) hHeld ?_
            try simp only [Act.put, List.setIfInBounds_toArray, List.set_cons_zero, List.set_cons_succ]
            refine held_yes 3 (some 50) (.pointer (some ⟨bo, oo + k, none⟩)) rfl rfl (by kernel_rfl) (by kernel_rfl) (by kernel_rfl) (fun _ _ _ h => h) rfl (fun w' hS => by skip; go_simp) hHeld ?_
            try simp only [Act.put, List.setIfInBounds_toArray, List.set_cons_zero, List.set_cons_succ]
            refine held_yes 4 (some 51) (.int .i64 i) rfl rfl (by kernel_rfl) (by kernel_rfl) (by kernel_rfl) (fun _ _ _ h => h) rfl (fun w' hS => by skip; go_simp) hHeld ?_
            try simp only [Act.put, List.setIfInBounds_toArray, List.set_cons_zero, List.set_cons_succ]
            refine held_yes 5 (some 52) (.slice (some ⟨w.heap.size, 0, none⟩) js.length js.length) rfl rfl (by kernel_rfl) (by kernel_rfl) (by kernel_rfl) (fun _ _ _ h => h) rfl (fun w' hS => by skip; go_simp) hHeld ?_
            try simp only [Act.put, List.setIfInBounds_toArray, List.set_cons_zero, List.set_cons_succ]
            refine held_yes 6 (some 53) (.slice (some ⟨bo, oo, none⟩) js.length co) rfl rfl (by kernel_rfl) (by kernel_rfl) (by kernel_rfl) (fun _ _ _ h => h) rfl (fun w' hS => by skip; go_simp) hHeld ?_
            try simp only [Act.put, List.setIfInBounds_toArray, List.set_cons_zero, List.set_cons_succ]
            refine held_yes 7 (some 54) (.int .i64 k) rfl rfl (by kernel_rfl) (by kernel_rfl) (by kernel_rfl) (fun _ _ _ h => h) rfl (fun w' hS => by skip; go_simp) hHeld ?_
            try simp only [Act.put, List.setIfInBounds_toArray, List.set_cons_zero, List.set_cons_succ]
            refine held_yes 8 (some 55) (.pointer (some ⟨bo, oo + k, none⟩)) rfl rfl (by kernel_rfl) (by kernel_rfl) (by kernel_rfl) (fun _ _ _ h => h) rfl (fun w' hS => by skip; go_simp) hHeld ?_
            try simp only [Act.put, List.setIfInBounds_toArray, List.set_cons_zero, List.set_cons_succ]
            refine held_yes 9 (some 56) (.int .i64 i) rfl rfl (by kernel_rfl) (by kernel_rfl) (by kernel_rfl) (fun _ _ _ h => h) rfl (fun w' hS => by skip; go_simp) hHeld ?_
            try simp only [Act.put, List.setIfInBounds_toArray, List.set_cons_zero, List.set_cons_succ]
            refine held_yes 10 (some 57) (.pointer (some ⟨w.heap.size, 0 + i, none⟩)) rfl rfl (by kernel_rfl) (by kernel_rfl) (by kernel_rfl) (fun _ _ _ h => h) rfl (fun w' hS => by skip; go_simp) hHeld ?_
            try simp only [Act.put, List.setIfInBounds_toArray, List.set_cons_zero, List.set_cons_succ]
            refine held_yes 12 (some 59) (.int .i64 y) rfl rfl (by kernel_rfl) (by kernel_rfl) (by kernel_rfl) (fun _ _ _ h => h) rfl (fun w' hS => by skip; go_simp) hHeld ?_
            try simp only [Act.put, List.setIfInBounds_toArray, List.set_cons_zero, List.set_cons_succ]
            refine wpAnyH_ready (rs := [11, 13]) (by kernel_rfl) (by simp) ?_
            refine AllReadyH.cons rfl (fun K hK => ?_) (AllReadyH.cons rfl (fun K hK => ?_) AllReadyH.nil)
            · go_simp
              refine hK.out _ _ hxd (fun hHeld => ?_)
              clear hK K
              try simp only [Act.put, List.setIfInBounds_toArray, List.set_cons_zero, List.set_cons_succ]
              refine wpAnyH_ready (rs := [13]) (by kernel_rfl) (by simp) ?_
              refine AllReadyH.cons rfl (fun K hK => ?_) AllReadyH.nil
              go_simp
              rw [← HWB.out]
              refine hK.out _ _ HSPB.out (fun hHeld => ?_)
              clear hK K
              try simp only [Act.put, List.setIfInBounds_toArray, List.set_cons_zero, List.set_cons_succ]
              refine wpAnyH_ready (rs := [14]) (by kernel_rfl) (by simp) ?_
              refine AllReadyH.cons rfl (fun K hK => ?_) AllReadyH.nil
              refine stepB_app (w' := wc) rfl (.tmp 58) (.tmp 60) _ rfl v (.slice (some ⟨w5.heap.size, 0, none⟩) 1 1) (.slice A2 (s + 1) c2) (by rw [evalB_tmp]; rfl) (by rw [evalB_tmp]; rfl) HAP.out ?_
              refine hK.out _ _ hSc (fun hHeld => ?_)
              clear hK K
              try simp only [Act.put, List.setIfInBounds_toArray]
              refine held_yes 15 (some 62) (.pointer (some ⟨w.heap.size, 0 + i, none⟩)) rfl rfl (by kernel_rfl) (by kernel_rfl) (by kernel_rfl) (fun _ _ _ h => h) rfl (fun w' hS => by skip; go_simp) hHeld ?_
              try simp only [Act.put]
              refine wpAnyH_ready (rs := [16]) (by kernel_rfl) (by simp) ?_
              refine AllReadyH.cons rfl (fun K hK => ?_) AllReadyH.nil
              go_simp
              rw [← HW8.out]
              refine hK.out _ _ hS8 (fun hHeld => ?_)
              clear hK K
              refine wpAnyH_done (by kernel_rfl) ?_ _
              clear hHeld
              clear fzc okc hSc
              rcases HDS.out with ⟨hsd, bd, od, u, hA, hbd, hu, ru, hu0, hu1, hdl⟩ | ⟨hdl, hu⟩
              · subst hA
                have HRD2 := Lib.hid (HRD.out.trans (by rw [hu]))
                have hbd1 : bd ≠ g1 := HGB.out bd hbd
                have HW3 := Lib.hid (wrapC2 (n := y + z + u) (by have := HYB.out; have := HP.out.len; omega))
                obtain ⟨wa1, wa2⟩ := HW2.out
                obtain ⟨wb1, wb2⟩ := HW3.out
                obtain ⟨ws1, ws2⟩ := HWS.out
                clear hu hu0 hu1 hbd hsd
                go_wp2_with fail
                rw [← HW9.out]
                go_roundw
                case rel => exact ⟨s + 1, _, HSK.out, by simp, by rw [HRD2.out], HREL.out⟩
                case measure => exact HSM.out
              · have HRD2 := Lib.hid (HRD.out.trans (by rw [hu]; omega : _ = y + z))
                rw [hdl] at e2
                obtain ⟨wa1, wa2⟩ := HW2.out
                obtain ⟨ws1, ws2⟩ := HWS.out
                clear hu hdl
                go_wp2_with fail
                rw [← HW9.out]
                go_roundw
                case rel => exact ⟨s + 1, _, HSK.out, by simp, by rw [HRD2.out], HREL.out⟩
                case measure => exact HSM.out
            · go_simp
              rw [← HWB.out]
              refine hK.out _ _ HSPB.out (fun hHeld => ?_)
              clear hK K
              try simp only [Act.put, List.setIfInBounds_toArray, List.set_cons_zero, List.set_cons_succ]
              refine wpAnyH_ready (rs := [11]) (by kernel_rfl) (by simp) ?_
              refine AllReadyH.cons rfl (fun K hK => ?_) AllReadyH.nil
              have hvb := HVB.out
              go_simp
              refine hK.out _ _ HSPB.out (fun hHeld => ?_)
              clear hK K
              try simp only [Act.put, List.setIfInBounds_toArray, List.set_cons_zero, List.set_cons_succ]
              refine wpAnyH_ready (rs := [14]) (by kernel_rfl) (by simp) ?_
              refine AllReadyH.cons rfl (fun K hK => ?_) AllReadyH.nil
              refine stepB_app (w' := wc) rfl (.tmp 58) (.tmp 60) _ rfl v (.slice (some ⟨w5.heap.size, 0, none⟩) 1 1) (.slice A2 (s + 1) c2) (by rw [evalB_tmp]; rfl) (by rw [evalB_tmp]; rfl) HAP.out ?_
              refine hK.out _ _ hSc (fun hHeld => ?_)
              clear hK K
              try simp only [Act.put, List.setIfInBounds_toArray]
              refine held_yes 15 (some 62) (.pointer (some ⟨w.heap.size, 0 + i, none⟩)) rfl rfl (by kernel_rfl) (by kernel_rfl) (by kernel_rfl) (fun _ _ _ h => h) rfl (fun w' hS => by skip; go_simp) hHeld ?_
              try simp only [Act.put]
              refine wpAnyH_ready (rs := [16]) (by kernel_rfl) (by simp) ?_
              refine AllReadyH.cons rfl (fun K hK => ?_) AllReadyH.nil
              go_simp
              rw [← HW8.out]
              refine hK.out _ _ hS8 (fun hHeld => ?_)
              clear hK K
              refine wpAnyH_done (by kernel_rfl) ?_ _
              clear hHeld
              clear fzc okc hSc
              rcases HDS.out with ⟨hsd, bd, od, u, hA, hbd, hu, ru, hu0, hu1, hdl⟩ | ⟨hdl, hu⟩
              · subst hA
                have HRD2 := Lib.hid (HRD.out.trans (by rw [hu]))
                have hbd1 : bd ≠ g1 := HGB.out bd hbd
                have HW3 := Lib.hid (wrapC2 (n := y + z + u) (by have := HYB.out; have := HP.out.len; omega))
                obtain ⟨wa1, wa2⟩ := HW2.out
                obtain ⟨wb1, wb2⟩ := HW3.out
                obtain ⟨ws1, ws2⟩ := HWS.out
                clear hu hu0 hu1 hbd hsd
                go_wp2_with fail
                rw [← HW9.out]
                go_roundw
                case rel => exact ⟨s + 1, _, HSK.out, by simp, by rw [HRD2.out], HREL.out⟩
                case measure => exact HSM.out
              · have HRD2 := Lib.hid (HRD.out.trans (by rw [hu]; omega : _ = y + z))
                rw [hdl] at e2
                obtain ⟨wa1, wa2⟩ := HW2.out
                obtain ⟨ws1, ws2⟩ := HWS.out
                clear hu hdl
                go_wp2_with fail
                rw [← HW9.out]
                go_roundw
                case rel => exact ⟨s + 1, _, HSK.out, by simp, by rw [HRD2.out], HREL.out⟩
                case measure => exact HSM.out)
        · have hal : a.length = s := HSO.out.1
          have hsch := schR_next HROW.out.1 HROW.out.2 hfy hg0V hg1V HCL.out hKo hown (by rw [List.length_take]; omega)
          rw [← hal, List.take_length, ← HSU.out.1] at hsch
          rw [← HSU.out.2] at hK1
          have HR := Lib.hid (And.intro hK1 hsch)
          have rj5 : RowK w5 127 w4.heap.size [.string nm, .slice At s ct, .slice Ad d.length cd] := rj.keep (hfy.2 _ rj.lt hjb hjb1)
          have q1 := rj5.cell (i := 1) rfl
          obtain ⟨wk1, wk2⟩ := HWK.out
          clear hK1 hKo hown hfy hsch hal
          go_wp2_with fail
          go_roundw
          case rel => exact ⟨k + 1, _, HK.out, by simp, HR.out.1, HR.out.2, hX5⟩
          case measure => exact HM.out
    · have hrowE : SlLL w4 (.slice (some ⟨w.heap.size, 0, none⟩) js.length js.length) (schP js m p) := by
        have hS : schP js m p = schK js m p js.length := by unfold schP; rw [HP.out.len]
        have hSl : (schK js m p js.length).length = js.length := schK_len ..
        rw [hS]
        have h : SlLL w4 (.slice (some ⟨w.heap.size, 0, none⟩) (schK js m p js.length).length js.length) (schK js m p js.length) :=
          SchRow.sl ⟨cs, hrow.1, hrow.2.1, fun i x hi => by obtain ⟨v, h1, h2, h3, -⟩ := hrow.2.2 i x hi; exact ⟨v, h1, h2, h3⟩⟩
        rw [hSl] at h
        exact h
      have HR := Lib.hid hrowE
      clear hrow hrowE hK1
      go_wp2_with fail
      go_ret
      exact ⟨⟨_, rfl, HR.out⟩, hX⟩
end Go.Proofs
