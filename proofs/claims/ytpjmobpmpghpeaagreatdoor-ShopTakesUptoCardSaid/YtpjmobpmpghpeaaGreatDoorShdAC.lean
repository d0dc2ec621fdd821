import Derived.Test.YtpjmobpmpghpeaaGreatDoorShdZ
import Derived.Test.YtpjmobpmpghpeaaGreatDoorShdR
import Derived.Test.YtpjmobpmpghpeaaGreatDoorShdT
section
/- TopShadeTabs: the state of the first loop. -/
namespace Go.Proofs
open Go.RowKit Go.MapKept
set_option maxHeartbeats 4000000
set_option maxRecDepth 1000000
structure L1 (Vg : World) (x y z : Int) (b8 b9 b10 : Nat) (u8 u9 uP : Value) (L8 L9 l : List TabT) (W : World) : Prop where
  r8 : RowK W 50 b8 [.int .i64 x, .int .i64 y, .int .i64 z, u8]
  r9 : RowK W 50 b9 [.int .i64 x, .int .i64 y, .int .i64 z, u9]
  r10 : RowK W 50 b10 [.int .i64 x, .int .i64 y, .int .i64 z, uP]
  o8 : OwnT 76 W Vg.heap.size u8 L8
  o9 : OwnT 76 W Vg.heap.size u9 L9
  oP : OwnT 76 W Vg.heap.size uP l
  d : ∀ g, u8.ownBlock = some g → u9.ownBlock ≠ some g
  e8 : ∀ g, u8.ownBlock = some g → uP.ownBlock ≠ some g
  e9 : ∀ g, u9.ownBlock = some g → uP.ownBlock ≠ some g
  keep : Below Vg.heap.size Vg W
theorem L1.swap {Vg : World} {x y z : Int} {b8 b9 b10 : Nat} {u8 u9 uP : Value} {L8 L9 l : List TabT} {W : World} (h : L1 Vg x y z b8 b9 b10 u8 u9 uP L8 L9 l W) : L1 Vg x y z b9 b8 b10 u9 u8 uP L9 L8 l W :=
  ⟨h.r9, h.r8, h.r10, h.o9, h.o8, h.oP, fun g e e' => h.d g e' e, h.e9, h.e8, h.keep⟩
theorem L1.below {Vg : World} {x y z : Int} {b8 b9 b10 : Nat} {u8 u9 uP : Value} {L8 L9 l : List TabT} {W W' : World} (h : L1 Vg x y z b8 b9 b10 u8 u9 uP L8 L9 l W) (hb : Below W.heap.size W W') : L1 Vg x y z b8 b9 b10 u8 u9 uP L8 L9 l W' :=
  ⟨h.r8.below hb, h.r9.below hb, h.r10.below hb, h.o8.keep hb, h.o9.keep hb, h.oP.keep hb, h.d, h.e8, h.e9, h.keep.trans (hb.mono h.keep.size)⟩
theorem L1.put {Vg : World} {x y z : Int} {b8 b9 b10 : Nat} {u8 u9 uP : Value} {L8 L9 l L8' : List TabT} {W W2 : World} {A2 : Option Addr} {n2 c2 : Nat} (h : L1 Vg x y z b8 b9 b10 u8 u9 uP L8 L9 l W) (d89 : b8 ≠ b9) (d8a : b8 ≠ b10) (l8 : Vg.heap.size ≤ b8)
    (hown : OwnT 76 W2 Vg.heap.size (.slice A2 n2 c2) L8') (hg : W.grownBy W2 u8.ownBlock) (hv : (Value.slice A2 n2 c2).ownBlock = u8.ownBlock ∨ (Value.slice A2 n2 c2).ownBlock = some W.heap.size) :
    L1 Vg x y z b8 b9 b10 (.slice A2 n2 c2) u9 uP L8' L9 l (W2.setCell ⟨b8, 3, none⟩ (.slice A2 n2 c2)) := by
  have hk : ∀ g, g < W.heap.size → u8.ownBlock ≠ some g → W2.heap[g]? = W.heap[g]? := fun g hg' hne => hg.block g hg' (fun e => hne e.symm)
  have q8 := h.r8.keep (hk _ h.r8.lt (h.o8.ne_ h.r8 (by decide)))
  have q9 := h.r9.keep (hk _ h.r9.lt (h.o8.ne_ h.r9 (by decide)))
  have q10 := h.r10.keep (hk _ h.r10.lt (h.o8.ne_ h.r10 (by decide)))
  have nv := hown.ne_ q8 (by decide)
  have n9 := h.o9.ne_ h.r8 (by decide)
  have nP := h.oP.ne_ h.r8 (by decide)
  have hs : ∀ g, g ≠ b8 → (W2.setCell ⟨b8, 3, none⟩ (.slice A2 n2 c2)).heap[g]? = W2.heap[g]? := fun g hg' => Below.heap_setCell W2 ⟨b8, 3, none⟩ _ g hg'
  refine ⟨q8.set 3 _, q9.keep (hs _ (Ne.symm d89)), q10.keep (hs _ (Ne.symm d8a)), hown.keepB fun g e => hs g (fun e' => nv (by rw [e, e'])), ?_, ?_, ?_, ?_, h.e9, ?_⟩
  · exact h.o9.keepB fun g e => (hs g (fun e' => n9 (by rw [e, e']))).trans (hk g (h.o9.lt g e).2 (fun e' => h.d g e' e))
  · exact h.oP.keepB fun g e => (hs g (fun e' => nP (by rw [e, e']))).trans (hk g (h.oP.lt g e).2 (fun e' => h.e8 g e' e))
  · intro g e e'
    rcases hv with hv | hv
    · exact h.d g (hv.symm.trans e) e'
    · have := (h.o9.lt g e').2
      rw [hv] at e
      obtain rfl := Option.some.inj e
      omega
  · intro g e e'
    rcases hv with hv | hv
    · exact h.e8 g (hv.symm.trans e) e'
    · have := (h.oP.lt g e').2
      rw [hv] at e
      obtain rfl := Option.some.inj e
      omega
  · exact (h.keep.grown hg h.keep.size (fun g e => (h.o8.lt g e).1)).setCell (p := ⟨b8, 3, none⟩) l8 _
def darkT (t : TabT) : TabT := (t.1, lessC t.2)
theorem row_tab {W : World} {g : Nat} {t : TabT} (h : RowK W 76 g (encT t)) : TabAt W g 0 [t] := fun i t' hi => by
  cases i with
  | zero =>
    obtain rfl : t = t' := by simpa using hi
    exact ⟨h.cell (by rfl), h.cell (by rfl), h.cell (by rfl), h.cell (by rfl)⟩
  | succ i => simp at hi
end Go.Proofs
end

section
/- TopShadeTabs: nearest tabs and best mixes of the four guides; no world. -/
namespace Go.Proofs
open Go.RowKit Go.MapKept
set_option maxHeartbeats 4000000
set_option maxRecDepth 1000000
/-- The least distance of some colours. -/
def IsMin (ws : Cel) (L : List Cel) (t : Cel) (m : Int) : Prop := (∃ c ∈ L, distW ws c t = m) ∧ ∀ c ∈ L, m ≤ distW ws c t
theorem least_min {L : List Cel} {ws t : Cel} {j : Nat} {c : Cel} (h : Least1 L ws t j) (hj : L[j]? = some c) : IsMin ws L t (distW ws c t) := by
  obtain ⟨c', h1, h2, -⟩ := h
  obtain rfl := Option.some.inj (h1.symm.trans hj)
  exact ⟨⟨_, List.mem_of_getElem? hj, rfl⟩, h2⟩
theorem IsMin.le {ws t t' : Cel} {L L' : List Cel} {m m' : Int} (h : IsMin ws L t m) (h' : IsMin ws L' t' m') (hs : ∀ c ∈ L, ∃ c' ∈ L', distW ws c' t' = distW ws c t) : m' ≤ m := by
  obtain ⟨⟨c, hc, rfl⟩, -⟩ := h
  obtain ⟨c', hc', e⟩ := hs c hc
  rw [← e]
  exact h'.2 c' hc'
theorem sq_less (w x p : Int) : w * (255 - x - (255 - p)) * (255 - x - (255 - p)) = w * (x - p) * (x - p) := by
  rw [show 255 - x - (255 - p) = -(x - p) by omega]
  simp only [Int.mul_neg, Int.neg_mul, Int.neg_neg]
theorem dist_less (ws a b : Cel) : distW ws (lessC a) (lessC b) = distW ws a b := by
  unfold distW termD lessC
  simp only [sq_less]
theorem near_all {l : List TabT} {ft : TabT} {c ws : Cel} {n0 n1 n2 n3 : Int} (h0 : IsMin ws (l.map (·.2)) c n0) (h1 : IsMin ws (l.reverse.map (·.2)) c n1) (h2 : IsMin ws ((l.map darkT).map (·.2)) (lessC c) n2) (h3 : IsMin ws ((l ++ [ft]).map (·.2)) c n3) : n1 = n0 ∧ n2 = n0 ∧ n3 ≤ n0 := by
  have a1 := h0.le h1 (fun q hq => ⟨q, by simpa using hq, rfl⟩)
  have a2 := h1.le h0 (fun q hq => ⟨q, by simpa using hq, rfl⟩)
  have a3 := h0.le h2 (fun q hq => by
    obtain ⟨t, ht, rfl⟩ := List.mem_map.1 hq
    exact ⟨lessC t.2, List.mem_map.2 ⟨darkT t, List.mem_map.2 ⟨t, ht, rfl⟩, rfl⟩, dist_less _ _ _⟩)
  have a4 := h2.le h0 (fun q hq => by
    obtain ⟨t', ht', rfl⟩ := List.mem_map.1 hq
    obtain ⟨t, ht, rfl⟩ := List.mem_map.1 ht'
    exact ⟨t.2, List.mem_map.2 ⟨t, ht, rfl⟩, (dist_less _ _ _).symm⟩)
  have a5 := h0.le h3 (fun q hq => ⟨q, by
    obtain ⟨t, ht, rfl⟩ := List.mem_map.1 hq
    exact List.mem_map.2 ⟨t, List.mem_append_left _ ht, rfl⟩, rfl⟩)
  omega
def MinM (ws : Cel) (l : List TabT) (c : Cel) (m : Int) : Prop := IsMin ws ((mixL l.length).map (colM l)) (mul8 c) m
theorem best_min {ws : Cel} {l : List TabT} {c q : Cel} (h : BestM ws l c q) : MinM ws l c (distW ws (colM l q) (mul8 c)) ∧ MixOk l.length q := by
  obtain ⟨j, h1, h2⟩ := h
  rw [mix8] at h2
  exact ⟨least_min h2 (by rw [List.getElem?_map, h1]; rfl), mixL_ok.1 (List.mem_of_getElem? h1)⟩
theorem term8 (w x p : Int) (a b e : Int) (hx : x = (8 - e) * a + e * b) : w * ((8 - e) * (255 - a) + e * (255 - b) - 8 * (255 - p)) * ((8 - e) * (255 - a) + e * (255 - b) - 8 * (255 - p)) = w * (x - 8 * p) * (x - 8 * p) := by
  have h : (8 - e) * (255 - a) + e * (255 - b) - 8 * (255 - p) = -(x - 8 * p) := by
    subst hx
    rw [Int.mul_sub, Int.mul_sub, Int.sub_mul 8 e 255]
    omega
  rw [h]
  simp only [Int.mul_neg, Int.neg_mul, Int.neg_neg]
theorem col_rev {l : List TabT} {q : Cel} (h : MixOk l.length q) : ∃ q', MixOk l.length q' ∧ colM l.reverse q' = colM l q ∧ colM l q' = colM l.reverse q := by
  obtain ⟨a, b, e⟩ := q
  obtain ⟨i, k, rfl, rfl, hik, hk, h1, h2⟩ := h
  dsimp only at hk h1 h2
  have ei : ((l.length : Int) - 1 - k) = ((l.length - 1 - k : Nat) : Int) := by omega
  have ek : ((l.length : Int) - 1 - i) = ((l.length - 1 - i : Nat) : Int) := by omega
  refine ⟨((l.length : Int) - 1 - k, (l.length : Int) - 1 - i, 8 - e), ⟨l.length - 1 - k, l.length - 1 - i, ei, ek, by omega, by omega, by simp only; omega, by simp only; omega⟩, ?_, ?_⟩
  · unfold colM mixC
    dsimp only
    rw [ei, ek]
    simp only [Int.toNat_natCast]
    rw [List.getElem?_reverse (by omega), List.getElem?_reverse (by omega), show l.length - 1 - (l.length - 1 - k) = k by omega, show l.length - 1 - (l.length - 1 - i) = i by omega, show (8 : Int) - (8 - e) = e by omega]
    simp only [Int.add_comm]
  · unfold colM mixC
    dsimp only
    rw [ei, ek]
    simp only [Int.toNat_natCast]
    rw [List.getElem?_reverse (by omega), List.getElem?_reverse (by omega), show (8 : Int) - (8 - e) = e by omega]
    simp only [Int.add_comm]
theorem col_dark {l : List TabT} {q : Cel} (ws c : Cel) (h : MixOk l.length q) : distW ws (colM (l.map darkT) q) (mul8 (lessC c)) = distW ws (colM l q) (mul8 c) := by
  obtain ⟨a, b, e⟩ := q
  obtain ⟨i, k, rfl, rfl, hik, hk, h1, h2⟩ := h
  dsimp only at hk h1 h2
  obtain ⟨t1, ht1⟩ : ∃ t, l[i]? = some t := ⟨_, List.getElem?_eq_getElem (by omega)⟩
  obtain ⟨t2, ht2⟩ : ∃ t, l[k]? = some t := ⟨_, List.getElem?_eq_getElem hk⟩
  have e1 : colM (l.map darkT) ((i : Int), (k : Int), e) = mixC (8 - e) (lessC t1.2) e (lessC t2.2) := by
    unfold colM
    dsimp only
    simp only [Int.toNat_natCast, List.getElem?_map, ht1, ht2]
    rfl
  have e2 : colM l ((i : Int), (k : Int), e) = mixC (8 - e) t1.2 e t2.2 := by
    unfold colM
    dsimp only
    simp only [Int.toNat_natCast, ht1, ht2]
    rfl
  rw [e1, e2]
  unfold distW termD mixC mul8 lessC
  dsimp only
  rw [term8 ws.1 _ c.1 t1.2.1 t2.2.1 e rfl, term8 ws.2.1 _ c.2.1 t1.2.2.1 t2.2.2.1 e rfl, term8 ws.2.2 _ c.2.2 t1.2.2.2 t2.2.2.2 e rfl]
theorem col_more {l : List TabT} {ft : TabT} {q : Cel} (h : MixOk l.length q) : MixOk (l ++ [ft]).length q ∧ colM (l ++ [ft]) q = colM l q := by
  obtain ⟨a, b, e⟩ := q
  obtain ⟨i, k, rfl, rfl, hik, hk, h1, h2⟩ := h
  dsimp only at hk h1 h2
  refine ⟨⟨i, k, rfl, rfl, hik, by simp; omega, h1, h2⟩, ?_⟩
  unfold colM
  dsimp only
  simp only [Int.toNat_natCast]
  rw [List.getElem?_append_left (by omega), List.getElem?_append_left hk]
theorem mixed_all {l : List TabT} {ft : TabT} {c ws : Cel} {n0 n1 n2 n3 : Int} (h0 : MinM ws l c n0) (h1 : MinM ws l.reverse c n1) (h2 : MinM ws (l.map darkT) (lessC c) n2) (h3 : MinM ws (l ++ [ft]) c n3) : n1 = n0 ∧ n2 = n0 ∧ n3 ≤ n0 := by
  unfold MinM at h0 h1 h2 h3
  rw [List.length_reverse] at h1
  rw [List.length_map] at h2
  have a1 := h0.le h1 (fun q hq => by
    obtain ⟨x, hx, rfl⟩ := List.mem_map.1 hq
    obtain ⟨x', h3, h4, -⟩ := col_rev (mixL_ok.1 hx)
    exact ⟨_, List.mem_map.2 ⟨x', mixL_ok.2 h3, rfl⟩, by rw [h4]⟩)
  have a2 := h1.le h0 (fun q hq => by
    obtain ⟨x, hx, rfl⟩ := List.mem_map.1 hq
    obtain ⟨x', h3, -, h4⟩ := col_rev (mixL_ok.1 hx)
    exact ⟨_, List.mem_map.2 ⟨x', mixL_ok.2 h3, rfl⟩, by rw [h4]⟩)
  have a3 := h0.le h2 (fun q hq => by
    obtain ⟨x, hx, rfl⟩ := List.mem_map.1 hq
    exact ⟨_, List.mem_map.2 ⟨x, hx, rfl⟩, col_dark _ _ (mixL_ok.1 hx)⟩)
  have a4 := h2.le h0 (fun q hq => by
    obtain ⟨x, hx, rfl⟩ := List.mem_map.1 hq
    exact ⟨_, List.mem_map.2 ⟨x, hx, rfl⟩, (col_dark _ _ (mixL_ok.1 hx)).symm⟩)
  have a5 := h0.le h3 (fun q hq => by
    obtain ⟨x, hx, rfl⟩ := List.mem_map.1 hq
    obtain ⟨h4, h5⟩ := col_more (ft := ft) (mixL_ok.1 hx)
    exact ⟨_, List.mem_map.2 ⟨x, mixL_ok.2 h4, rfl⟩, by rw [h5]⟩)
  omega
def tabsOf (l : List TabT) (ft : TabT) : Nat → List TabT
  | 0 => l
  | 1 => l.reverse
  | 2 => l.map darkT
  | _ => l ++ [ft]
def atOf (c : Cel) (i : Nat) : Cel := if i = 2 then lessC c else c
theorem GuideOk.of_mem {ws : Cel} {l l' : List TabT} (h : GuideOk ws l) (hlen : l'.length = l.length) (ha : ∀ (i : Nat) (t : TabT), l'[i]? = some t → NameOk t.1 ∧ ColOk t.2 0 255) (hn : ∀ (i j : Nat) (s t : TabT), j < i → l'[j]? = some s → l'[i]? = some t → s.1 ≠ t.1) : GuideOk ws l' :=
  ⟨h.wt, by rw [hlen]; exact h.pos, by rw [hlen]; exact h.few, ha, hn⟩
theorem guide_rev {ws : Cel} {l : List TabT} (h : GuideOk ws l) : GuideOk ws l.reverse := by
  refine h.of_mem (List.length_reverse) (fun i t hi => ?_) (fun i j s t hji hs ht => ?_)
  · have hl : i < l.length := by have := (List.getElem?_eq_some_iff.1 hi).1; simpa using this
    rw [List.getElem?_reverse hl] at hi
    exact h.at_ _ _ hi
  · have hl : i < l.length := by have := (List.getElem?_eq_some_iff.1 ht).1; simpa using this
    rw [List.getElem?_reverse (by omega)] at hs
    rw [List.getElem?_reverse hl] at ht
    exact (h.nd _ _ _ _ (by omega) ht hs).symm
theorem guide_dark {ws : Cel} {l : List TabT} (h : GuideOk ws l) : GuideOk ws (l.map darkT) := by
  refine h.of_mem (List.length_map _) (fun i t hi => ?_) (fun i j s t hji hs ht => ?_)
  · rw [List.getElem?_map] at hi
    obtain ⟨t', ht', rfl⟩ := Option.map_eq_some_iff.1 hi
    obtain ⟨h1, h2⟩ := h.at_ _ _ ht'
    refine ⟨h1, ?_⟩
    unfold darkT lessC
    unfold ColOk at *
    dsimp only
    omega
  · rw [List.getElem?_map] at hs ht
    obtain ⟨s', hs', rfl⟩ := Option.map_eq_some_iff.1 hs
    obtain ⟨t', ht', rfl⟩ := Option.map_eq_some_iff.1 ht
    exact h.nd i j s' t' hji hs' ht'
theorem guide_all {ws : Cel} {l : List TabT} {ft : TabT} (h : GuideOk ws l) (hp : GuideOk ws (l ++ [ft])) (i : Nat) : GuideOk ws (tabsOf l ft i) := by
  match i with
  | 0 => exact h
  | 1 => exact guide_rev h
  | 2 => exact guide_dark h
  | n + 3 => exact hp
theorem at_ok {c : Cel} (h : ColOk c 0 255) (i : Nat) : ColOk (atOf c i) 0 255 := by
  unfold atOf
  split
  · unfold lessC; unfold ColOk at *; dsimp only; omega
  · exact h
theorem tabs_len {l : List TabT} {ft : TabT} (i : Nat) : (tabsOf l ft i).length = l.length ∨ (tabsOf l ft i).length = l.length + 1 := by
  match i with
  | 0 => exact .inl rfl
  | 1 => exact .inl (List.length_reverse)
  | 2 => exact .inl (List.length_map _)
  | n + 3 => exact .inr (by simp [tabsOf])
theorem name_a : NameOk ⟨#[97]⟩ := ⟨by decide, by decide, fun i h => by
  have h1 : i < 1 := h
  match i, h, h1 with
  | 0, _, _ => exact .inl rfl
  | n + 1, _, h1 => exact absurd h1 (by omega)⟩
theorem name_b : NameOk ⟨#[98]⟩ := ⟨by decide, by decide, fun i h => by
  have h1 : i < 1 := h
  match i, h, h1 with
  | 0, _, _ => exact .inl rfl
  | n + 1, _, h1 => exact absurd h1 (by omega)⟩
def twiceL (c : Cel) : List TabT := [(⟨#[97]⟩, c), (⟨#[98]⟩, c)]
theorem twice_ok {ws c : Cel} {l : List TabT} (h : GuideOk ws l) (hc : ColOk c 0 255) : GuideOk ws (twiceL c) := by
  refine ⟨h.wt, by simp [twiceL], by simp [twiceL], fun i t hi => ?_, fun i j s t hji hs ht => ?_⟩
  · match i, hi with
    | 0, hi => obtain rfl : (_, c) = t := by simpa [twiceL] using hi
               exact ⟨name_a, hc⟩
    | 1, hi => obtain rfl : (_, c) = t := by simpa [twiceL] using hi
               exact ⟨name_b, hc⟩
    | n + 2, hi => simp [twiceL] at hi
  · match i, j, hji, hs, ht with
    | 1, 0, _, hs, ht =>
      obtain rfl : (_, c) = s := by simpa [twiceL] using hs
      obtain rfl : (_, c) = t := by simpa [twiceL] using ht
      exact (show (⟨#[97]⟩ : ByteArray) ≠ ⟨#[98]⟩ by decide)
    | n + 2, _, _, _, ht => simp [twiceL] at ht
theorem mixC_same (c : Cel) (e : Int) : mixC (8 - e) c e c = mul8 c := by
  have k : ∀ x : Int, (8 - e) * x + e * x = 8 * x := fun x => by rw [Int.sub_mul]; omega
  unfold mixC mul8
  simp only [k]
theorem twice_best {ws c q : Cel} (h : BestM ws (twiceL c) c q) : q = (0, 1, 1) := by
  obtain ⟨j, h1, c', h2, -, h3⟩ := h
  rw [mix8] at h3
  have hcol : ∀ x ∈ mixL (twiceL c).length, colM (twiceL c) x = mul8 c := fun x hx => by
    obtain ⟨i, k, e1, e2, hik, hk, -, -⟩ := mixL_ok.1 hx
    have hk2 : k < 2 := hk
    obtain rfl : i = 0 := by omega
    obtain rfl : k = 1 := by omega
    unfold colM
    rw [e1, e2]
    exact mixC_same c _
  have hj : j = 0 := by
    apply Classical.byContradiction
    intro hj
    have hm0 : (mixL (twiceL c).length)[0]? = some (0, 1, 1) := rfl
    have := h3 0 (mul8 c) (by omega) (by rw [List.getElem?_map, hm0]; exact congrArg some (hcol _ (List.mem_of_getElem? hm0)))
    rw [List.getElem?_map, h1] at h2
    obtain rfl : colM (twiceL c) q = c' := by simpa using h2
    rw [hcol _ (List.mem_of_getElem? h1)] at this
    exact this rfl
  subst hj
  have hm0 : (mixL (twiceL c).length)[0]? = some (0, 1, 1) := rfl
  exact (Option.some.inj (hm0.symm.trans h1)).symm
end Go.Proofs
end
