import Derived.Test.YtokfniicbeemdaaGreatDoorRow
import Derived.Laws.OwnMore
import Derived.Lib.Hide
import Derived.Maps.AppendAt
import Derived.Test.YtokfniicbeemdaaGreatDoorJobE
import Derived.Lib.AppendZeros
section
/- Slices of structs, told by what an element's cells are. -/
namespace Go.Proofs
open Go.RowKit
set_option maxHeartbeats 4000000
set_option maxRecDepth 1000000
section
variable {α : Type} (enc : α → List Value) (s : Nat)
def flatF (l : List α) : List Value := l.flatMap enc
def FlatAt (w : World) (b o : Nat) (cs : List Value) : Prop := ∀ j u, cs[j]? = some u → w.cell? ⟨b, o + j, none⟩ = some u
/-- A slice value that reads as a list: nil, empty or not. -/
def SlF (w : World) (v : Value) (l : List α) : Prop :=
  (v = .slice none 0 0 ∧ l = []) ∨ ∃ (a : Addr) (cap : Nat), v = .slice (some a) l.length cap ∧ (l ≠ [] → a.spot = none ∧ a.block < w.heap.size ∧ FlatAt w a.block a.off (flatF enc l))
/-- A row of a call's own. -/
def OwnF (T : TypeId) (w : World) (B : Nat) (v : Value) (l : List α) : Prop := w.ownsRow B T s v l.length (flatF enc l)
end
section
variable {α : Type} {enc : α → List Value} {s : Nat}
theorem flatF_append (l m : List α) : flatF enc (l ++ m) = flatF enc l ++ flatF enc m := by simp [flatF]
theorem flatF_len (hs : ∀ x, (enc x).length = s) : ∀ l : List α, (flatF enc l).length = l.length * s
  | [] => by simp [flatF]
  | x :: l => by
    have h := flatF_len hs l
    have e : flatF enc (x :: l) = enc x ++ flatF enc l := by simp [flatF]
    rw [e, List.length_append, hs, h, List.length_cons, Nat.succ_mul]
    omega
theorem flatF_get (hs : ∀ x, (enc x).length = s) : ∀ {l : List α} {i : Nat} {x : α} {j : Nat}, l[i]? = some x → j < s → (flatF enc l)[i * s + j]? = (enc x)[j]?
  | [], i, x, j, h, _ => by simp at h
  | y :: l, 0, x, j, h, hj => by
    obtain rfl : y = x := by simpa using h
    have e : flatF enc (y :: l) = enc y ++ flatF enc l := by simp [flatF]
    rw [e, Nat.zero_mul, Nat.zero_add, List.getElem?_append_left (by rw [hs]; exact hj)]
  | y :: l, i + 1, x, j, h, hj => by
    have ih := flatF_get hs (l := l) (i := i) (x := x) (j := j) (by simpa using h) hj
    have e : flatF enc (y :: l) = enc y ++ flatF enc l := by simp [flatF]
    rw [e, List.getElem?_append_right (by rw [hs, Nat.succ_mul]; omega), hs, show (i + 1) * s + j - s = i * s + j by rw [Nat.succ_mul]; omega]
    exact ih
theorem FlatAt.below {w w' : World} {b o : Nat} {cs : List Value} (h : FlatAt w b o cs) {B : Nat} (hb : Below B w w') (hB : b < B) : FlatAt w' b o cs := fun j u hj => (hb.cell (p := ⟨b, _, none⟩) hB).trans (h j u hj)
theorem SlF.below {w w' : World} {v : Value} {l : List α} (h : SlF enc w v l) (hb : Below w.heap.size w w') : SlF enc w' v l := by
  rcases h with h | ⟨a, cap, rfl, h⟩
  · exact .inl h
  · refine .inr ⟨a, cap, rfl, fun hl => ?_⟩
    obtain ⟨h1, h2, h3⟩ := h hl
    exact ⟨h1, Nat.lt_of_lt_of_le h2 hb.size, h3.below hb h2⟩
theorem SlF.form {w : World} {v : Value} {l : List α} (h : SlF enc w v l) : ∃ (A : Option Addr) (cap : Nat), v = .slice A l.length cap := by
  rcases h with ⟨rfl, rfl⟩ | ⟨a, cap, rfl, _⟩
  · exact ⟨none, 0, rfl⟩
  · exact ⟨some a, cap, rfl⟩
theorem SlF.cells {w : World} {A : Option Addr} {n cap : Nat} {l : List α} (hs : ∀ x, (enc x).length = s) (h : SlF enc w (.slice A n cap) l) {k : Nat} {x : α} (hk : l[k]? = some x) :
    ∃ b o, A = some ⟨b, o, none⟩ ∧ n = l.length ∧ b < w.heap.size ∧ ∀ j u, (enc x)[j]? = some u → w.cell? ⟨b, o + k * s + j, none⟩ = some u := by
  rcases h with ⟨_, rfl⟩ | ⟨a, cap', e, h⟩
  · simp at hk
  · injection e with e1 e2 _
    obtain ⟨b, o, sp⟩ := a
    obtain ⟨h1, h2, h3⟩ := h (fun e => by subst e; simp at hk)
    obtain rfl : sp = none := h1
    refine ⟨b, o, e1, e2, h2, fun j u hu => ?_⟩
    have hj : j < s := by rw [← hs x]; exact (List.getElem?_eq_some_iff.1 hu).1
    have := h3 (k * s + j) u (by rw [flatF_get hs hk hj]; exact hu)
    rw [Nat.add_assoc]
    exact this
theorem OwnF.nil (T : TypeId) (w : World) (B : Nat) : OwnF enc s T w B (.slice none 0 0) [] := World.ownsRow_nil w B _ _
theorem OwnF.at_ {T : TypeId} {w : World} {B g n cap : Nat} {l : List α} (hs : ∀ x, (enc x).length = s) (h : OwnF enc s T w B (.slice (some ⟨g, 0, none⟩) n cap) l) (hn : n = l.length) : FlatAt w g 0 (flatF enc l) := fun j u hj => by
  subst hn
  have hjl : j < l.length * s := by rw [← flatF_len hs]; exact (List.getElem?_eq_some_iff.1 hj).1
  have := World.ownsRow.cellAt h j hjl
  rw [Nat.zero_add, this, hj]
theorem OwnF.form {T : TypeId} {w : World} {B : Nat} {v : Value} {l : List α} (hs : ∀ x, (enc x).length = s) (h : OwnF enc s T w B v l) : (v = .slice none 0 0 ∧ l = []) ∨ ∃ g cap, v = .slice (some ⟨g, 0, none⟩) l.length cap ∧ B ≤ g ∧ g < w.heap.size ∧ FlatAt w g 0 (flatF enc l) := by
  have h' := h
  rcases h.2 with ⟨h1, h2⟩ | ⟨g, cap, cur, rfl, hB, hg, _⟩
  · exact .inl ⟨h1, List.eq_nil_of_length_eq_zero h2⟩
  · exact .inr ⟨g, cap, rfl, hB, (Array.getElem?_eq_some_iff.1 hg).1, OwnF.at_ hs h' rfl⟩
theorem OwnF.sl {T : TypeId} {w : World} {B : Nat} {v : Value} {l : List α} (hs : ∀ x, (enc x).length = s) (h : OwnF enc s T w B v l) : SlF enc w v l := by
  rcases h.form hs with h | ⟨g, cap, rfl, _, hg, hr⟩
  · exact .inl h
  · exact .inr ⟨_, cap, rfl, fun _ => ⟨rfl, hg, hr⟩⟩
theorem OwnF.alloc {T : TypeId} {w : World} {B : Nat} {v : Value} {l : List α} (h : OwnF enc s T w B v l) (o : Obj) : OwnF enc s T (w.alloc o) B v l := World.ownsRow.alloc h o
theorem OwnF.keepB {T : TypeId} {w w' : World} {B : Nat} {v : Value} {l : List α} (h : OwnF enc s T w B v l) (hb : ∀ g, v.ownBlock = some g → w'.heap[g]? = w.heap[g]?) : OwnF enc s T w' B v l := by
  refine ⟨h.1, ?_⟩
  rcases h.2 with h1 | ⟨g, cap, cur, rfl, hB, hg, r⟩
  · exact .inl h1
  · exact .inr ⟨g, cap, cur, rfl, hB, (hb g rfl).trans hg, r⟩
theorem OwnF.lt {T : TypeId} {w : World} {B : Nat} {v : Value} {l : List α} (h : OwnF enc s T w B v l) : ∀ g, v.ownBlock = some g → B ≤ g ∧ g < w.heap.size := fun g e => by
  rcases h.2 with ⟨h1, _⟩ | ⟨g', cap, cur, rfl, hB, hg, r⟩
  · rw [h1] at e; cases e
  · obtain rfl : g' = g := by simpa [Value.ownBlock] using e
    exact ⟨hB, (Array.getElem?_eq_some_iff.1 hg).1⟩
theorem OwnF.keep {T : TypeId} {w w' : World} {B : Nat} {v : Value} {l : List α} (h : OwnF enc s T w B v l) (hb : Below w.heap.size w w') : OwnF enc s T w' B v l := h.keepB fun g e => hb.block g (h.lt g e).2
theorem OwnF.lower {T : TypeId} {w : World} {B B' : Nat} {v : Value} {l : List α} (h : OwnF enc s T w B' v l) (hle : B ≤ B') : OwnF enc s T w B v l := ⟨h.1, h.2.imp id fun ⟨g, cap, cur, h1, h2, r⟩ => ⟨g, cap, cur, h1, Nat.le_trans hle h2, r⟩⟩
theorem addr_addF (b o j : Nat) : (⟨b, o, none⟩ : Addr).add j = ⟨b, o + j, none⟩ := by
  unfold Addr.add
  split
  · simp_all
  · rfl
/-- append of one element to a row of the call's own. -/
theorem run_append_one {P : Program} (w : World) (ty tS T : TypeId) (B : Nat) (v : Value) (l : List α) (x : α) (hs : ∀ x, (enc x).length = s) (h1 : ∀ x, ∀ u ∈ enc x, u.oneCell' = true) (hown : OwnF enc s T w B v l) (b c : Nat) (bytes : Nat) (z : Value)
    (hS : P.underlying tS = some (.slice T)) (hI : (P.info? T).map (fun i => (i.zero, i.size, i.bytes)) = some (some z, s, bytes)) (hz : z.cells.size = s) (hsz : 0 < s) (hbt : bytes ≤ 1000) (hm : FlatAt w b 0 (enc x)) (hn : l.length ≤ 1048576) (hB : B ≤ w.heap.size) :
    ∃ A2 c2 w', (Builtin.append_ #[tS, tS] ty #[v, .slice (some ⟨b, 0, none⟩) 1 c]).run P w = .ok (.slice A2 (l.length + 1) c2) w' ∧ OwnF enc s T w' B (.slice A2 (l.length + 1) c2) (l ++ [x]) ∧ w.grownBy w' v.ownBlock ∧ ((Value.slice A2 (l.length + 1) c2).ownBlock = v.ownBlock ∨ (Value.slice A2 (l.length + 1) c2).ownBlock = some w.heap.size) := by
  obtain ⟨j0, hj, hy0, hy1, hy2⟩ := info_parts hI
  have hb2 : (l.length + 1) * bytes ≤ 140737488355328 := by
    have : (l.length + 1) * bytes ≤ 1048577 * 1000 := Nat.mul_le_mul (by omega) hbt
    omega
  obtain ⟨v', w', hr, h2, h3, h4, h5⟩ := run_append_own_at (P := P) w B tS ty T j0 z s bytes hS hj hy0 hy1 hy2 hz hsz v l.length (flatF enc l) hown ⟨b, 0, none⟩ 1 c (enc x) (by rw [hs, Nat.one_mul]) (fun j u hu => by rw [addr_addF]; exact hm j u hu) (h1 x) (by unfold maxLen; omega) hb2 hB
  have hO : OwnF enc s T w' B v' (l ++ [x]) := by
    unfold OwnF
    rw [List.length_append, flatF_append]
    have e : flatF enc [x] = enc x := by simp [flatF]
    rw [e]
    exact h2
  obtain ⟨A2, c2, hv⟩ := (hO.sl hs).form
  rw [List.length_append] at hv
  subst hv
  exact ⟨A2, c2, w', hr, hO, h3, h5⟩
end
end Go.Proofs
end

section
/- Jobs: as those of the reference; few ones, or too many. -/
namespace Go.Proofs
open Go.RowKit Go.MapKept
set_option maxHeartbeats 16000000
set_option maxRecDepth 1000000
theorem takeV_len {α : Type} {l : List α} {k : Nat} (h : k ≤ l.length) : (l.take k).length = k := by rw [List.length_take]; omega
theorem takeV_succ {α : Type} {l : List α} {k : Nat} {x : α} (h : l[k]? = some x) : l.take (k + 1) = l.take k ++ [x] := by rw [List.take_add_one, h]; rfl
theorem flatV_row {w : World} {b : Nat} {T : TypeId} {cs : List Value} (h : w.heap[b]? = some (.cells cs.toArray T (0, 0))) : FlatAt w b 0 cs := fun j u hj => by
  rw [Nat.zero_add, cell_of_row w b j _ _ _ h]
  simpa using hj
theorem wrapsV {k : Nat} (h : k < 1048576) : wrap64 ((k : Int) + 1) = (k : Int) + 1 ∧ IntKind.i64.wrap ((k : Int) + 1) = (k : Int) + 1 := ⟨wrap64_small (by omega), wrap_small (by omega)⟩
abbrev VS := Option Addr × Nat × Nat
def vS (s : VS) : Value := .slice s.1 s.2.1 s.2.2
abbrev JobV := ByteArray × VS × VS
def encJ (t : JobV) : List Value := [.string t.1, vS t.2.1, vS t.2.2]
theorem encJ_len : ∀ t, (encJ t).length = 3 := fun _ => rfl
theorem encJ_one : ∀ t, ∀ u ∈ encJ t, u.oneCell' = true := fun t u hu => by
  simp only [encJ, List.mem_cons, List.not_mem_nil, or_false] at hu
  rcases hu with rfl | rfl | rfl <;> rfl
theorem jbv_cells {w : World} {A : Option Addr} {n cap : Nat} {l : List JobV} (h : SlF encJ w (.slice A n cap) l) {k : Nat} {x : JobV} (hk : l[k]? = some x) :
    ∃ b o, A = some ⟨b, o, none⟩ ∧ n = l.length ∧ b < w.heap.size ∧ w.cell? ⟨b, o + k * 3, none⟩ = some (.string x.1) ∧ w.cell? ⟨b, o + k * 3 + 1, none⟩ = some (.slice x.2.1.1 x.2.1.2.1 x.2.1.2.2) ∧ w.cell? ⟨b, o + k * 3 + 2, none⟩ = some (.slice x.2.2.1 x.2.2.2.1 x.2.2.2.2) := by
  obtain ⟨b, o, h1, h2, h3, h4⟩ := h.cells encJ_len hk
  exact ⟨b, o, h1, h2, h3, h4 0 _ rfl, h4 1 _ rfl, h4 2 _ rfl⟩
/-- What the lists of some jobs hold. -/
def InJ (w : World) (L : List JobV) (J : List JobT) : Prop := L.length = J.length ∧ ∀ (k : Nat) (x : JobV) (j : JobT), L[k]? = some x → J[k]? = some j → x.1 = j.1 ∧ SlI w (vS x.2.1) j.2.1 ∧ SlI w (vS x.2.2) j.2.2
theorem InJ.below {w w' : World} {L : List JobV} {J : List JobT} (h : InJ w L J) (hb : Below w.heap.size w w') : InJ w' L J :=
  ⟨h.1, fun k x j hx hj => by obtain ⟨h1, h2, h3⟩ := h.2 k x j hx hj; exact ⟨h1, h2.below hb, h3.below hb⟩⟩
theorem InJ.some_ {w : World} {L : List JobV} {J : List JobT} (h : InJ w L J) {k : Nat} (hk : k < J.length) : ∃ nm A n c A' n' c' t d, L[k]? = some (nm, (A, n, c), (A', n', c')) ∧ J[k]? = some (nm, t, d) ∧ SlI w (.slice A n c) t ∧ SlI w (.slice A' n' c') d ∧ n = t.length ∧ n' = d.length := by
  obtain ⟨⟨nm', ⟨A, n, c⟩, A', n', c'⟩, hL⟩ : ∃ x, L[k]? = some x := ⟨_, List.getElem?_eq_getElem (by rw [h.1]; exact hk)⟩
  obtain ⟨⟨nm, t, d⟩, hJ⟩ : ∃ x, J[k]? = some x := ⟨_, List.getElem?_eq_getElem hk⟩
  obtain ⟨h1, h2, h3⟩ := h.2 k _ _ hL hJ
  dsimp only at h1 h2 h3
  subst h1
  unfold vS at h2 h3
  dsimp only at h2 h3
  have e1 := h2.form
  have e2 := h3.form
  obtain ⟨_, _, e1⟩ := e1
  obtain ⟨_, _, e2⟩ := e2
  injection e1 with _ e1 _
  injection e2 with _ e2 _
  exact ⟨_, A, n, c, A', n', c', t, d, hL, hJ, h2, h3, e1, e2⟩
theorem InJ.slj {w : World} {v : Value} {L : List JobV} {J : List JobT} (h : SlF encJ w v L) (hi : InJ w L J) : SlJ w v J := by
  rcases h with ⟨rfl, rfl⟩ | ⟨a, cap, rfl, h⟩
  · exact .inl ⟨rfl, List.eq_nil_of_length_eq_zero hi.1.symm⟩
  · refine .inr ⟨a, cap, by rw [hi.1], fun hJ => ?_⟩
    have hL : L ≠ [] := fun e => by
      subst e
      exact hJ (List.eq_nil_of_length_eq_zero hi.1.symm)
    obtain ⟨h1, h2, h3⟩ := h hL
    obtain ⟨b, o, s⟩ := a
    obtain rfl : s = none := h1
    refine ⟨rfl, h2, fun i j hj => ?_⟩
    obtain ⟨x, hx⟩ : ∃ x, L[i]? = some x := ⟨_, List.getElem?_eq_getElem (by rw [hi.1]; exact (List.getElem?_eq_some_iff.1 hj).1)⟩
    have hs : SlF encJ w (.slice (some ⟨b, o, none⟩) L.length cap) L := .inr ⟨_, cap, rfl, h⟩
    obtain ⟨b', o', e, -, -, c0, c1, c2⟩ := jbv_cells hs hx
    injection e with e
    injection e with e1 e2
    subst e1 e2
    obtain ⟨g1, g2, g3⟩ := hi.2 i x j hx hj
    exact ⟨_, _, by rw [← g1]; exact c0, c1, c2, g2, g3⟩
theorem lawOwn_ok (v : Value) (l : List JobV) (w : World) (hl : SlF encJ w v l) (hn : l.length ≤ 1048576) :
    Calls Tryz.prog 23 #[v] w fun e w' => (∃ u, e = .returned u ∧ OwnF encJ 3 127 w' w.heap.size u l) ∧ Below w.heap.size w w' := by
  obtain ⟨A, cap, rfl⟩ := hl.form
  go_enter Tryz.func23, Tryz.ntmps23
  go_wp2
  go_loopw [3, 8] (fun u i wr => ∃ k : Nat, k ≤ l.length ∧ i = .int .i64 k ∧ OwnF encJ 3 127 wr w.heap.size u (l.take k) ∧ Below w.heap.size w wr) (fun _ i _ => l.length - (intOf i).toNat)
  case atStart => exact ⟨0, Nat.zero_le _, rfl, OwnF.nil _ _ _, Below.refl _ _⟩
  case round =>
    obtain ⟨k, hk, rfl, hown, hBw⟩ := hrel
    obtain ⟨Au, cu, hu⟩ := (hown.sl encJ_len).form
    rw [takeV_len hk] at hu
    subst hu
    rcases Nat.lt_or_eq_of_le hk with hkn | rfl
    · obtain ⟨⟨nm, ⟨A1, n1, c1⟩, A2, n2, c2⟩, hc⟩ : ∃ t, l[k]? = some t := ⟨_, List.getElem?_eq_getElem hkn⟩
      obtain ⟨b, o, rfl, -, hb, r0, r1, r2⟩ := jbv_cells (hl.below hBw) hc
      dsimp only at r0 r1 r2
      have hi0 : (0 : Int) ≤ k := by omega
      have hi1 : (k : Int) < l.length := by omega
      have HWK := Lib.hid (wrapsV (show k < 1048576 by omega))
      have HK := Lib.hid (show k + 1 ≤ l.length from hkn)
      have HM := Lib.hid (show l.length - (k + 1) < l.length - k by omega)
      obtain ⟨Wt, hW⟩ : ∃ Wt, Wt = (wr.alloc (.cells #[.string nm, .slice A1 n1 c1, .slice A2 n2 c2] 70)).alloc (.cells #[.string nm, .slice A1 n1 c1, .slice A2 n2 c2] 127) := ⟨_, rfl⟩
      have hQt : Below wr.heap.size wr Wt := by subst hW; exact ((Below.refl _ _).alloc (Nat.le_refl _) _).alloc (by simp) _
      have hrowN : Wt.heap[wr.heap.size + 1]? = some (.cells (encJ (nm, (A1, n1, c1), (A2, n2, c2))).toArray 127 (0, 0)) := by
        have := heap_alloc_new (wr.alloc (.cells #[.string nm, .slice A1 n1 c1, .slice A2 n2 c2] 70)) (.cells #[.string nm, .slice A1 n1 c1, .slice A2 n2 c2] 127)
        rw [← hW] at this
        unfold encJ vS
        simpa using this
      have hownT := hown.keep hQt
      have hBt := hBw.trans (hQt.mono hBw.size)
      have hlt := hownT.lt
      obtain ⟨A3, c3, w2, hap, hown2, hg2, -⟩ := run_append_one (P := Tryz.prog) Wt 45 45 127 w.heap.size _ (l.take k) (nm, (A1, n1, c1), (A2, n2, c2)) encJ_len encJ_one hownT (wr.heap.size + 1) 1 64 (.agg #[.string ⟨#[]⟩, .slice none 0 0, .slice none 0 0]) Tryz.underlying45 (by kernel_rfl) rfl (by decide) (by decide) (flatV_row hrowN) (by rw [takeV_len hk]; omega) hBt.size
      rw [takeV_len hk] at hap hown2
      rw [← takeV_succ hc] at hown2
      have hB2 := hBt.grown hg2 hBt.size (fun g e => (hlt g e).1)
      have HW1 := Lib.hid hW
      have HAP := Lib.hid hap
      have HO := Lib.hid (And.intro hown2 hB2)
      clear hap hW hown2 hg2 hB2 hlt hBt hownT hrowN hQt hown hBw hc hl hb
      obtain ⟨wk1, wk2⟩ := HWK.out
      go_wp2_with (at_builtin; rw [← HW1.out]; refine Lib.wpList_append_run _ rfl _ _ _ _ rfl _ _ rfl rfl _ _ HAP.out ?_)
      go_roundw
      case rel => exact ⟨k + 1, HK.out, by simp, HO.out.1, HO.out.2⟩
      case measure => exact HM.out
    · rw [List.take_of_length_le (Nat.le_refl _)] at hown
      go_wp2
      go_ret
      exact ⟨⟨_, rfl, hown⟩, hBw⟩
/-- The jobs that are few, or too many, with short lists. -/
def ShortJ (l : List JobV) (n : Nat) : Prop := (l.length ≤ n ∨ 32 < l.length) ∧ l.length ≤ 35 ∧ ∀ (k : Nat) (x : JobV), l[k]? = some x → x.2.1.2.1 ≤ 11 ∧ x.2.2.2.1 ≤ 11
def ShortJS (l : List JobV) (n : Nat) (w : World) (e : Ending) (w' : World) : Prop := (∃ r : Bool, e = .returned (.bool r) ∧ (r = true → ShortJ l n)) ∧ Below w.heap.size w w'
theorem shortJ_mk {l : List JobV} {n : Nat} {w w' : World} (r : Bool) (h : r = true → ShortJ l n) (hb : Below w.heap.size w w') : ShortJS l n w (.returned (.bool r)) w' := ⟨⟨r, rfl, h⟩, hb⟩
theorem refShortJ_ok (v : Value) (l : List JobV) (n : Nat) (w : World) (hl : SlF encJ w v l) :
    Calls Tryz.prog 24 #[v, .int .i64 n] w (ShortJS l n w) := by
  obtain ⟨A, cap, rfl⟩ := hl.form
  have hB0 := Below.refl w.heap.size w
  go_enter Tryz.func24, Tryz.ntmps24
  go_wp2
  all_goals (try (go_ret; exact shortJ_mk false (fun h => by cases h) hB0))
  all_goals (
    have hS : (l.length ≤ n ∨ 32 < l.length) ∧ l.length ≤ 35 := by first | exact ⟨.inl (by omega), by omega⟩ | exact ⟨.inr (by omega), by omega⟩
    have HS := Lib.hid hS
    clear hS
    go_loopw [5] (fun i wr => ∃ k : Nat, k ≤ l.length ∧ i = .int .i64 k ∧ (∀ (q : Nat) (x : JobV), q < k → l[q]? = some x → x.2.1.2.1 ≤ 11 ∧ x.2.2.2.1 ≤ 11) ∧ Below w.heap.size w wr) (fun i _ => l.length - (intOf i).toNat)
    case atStart => exact ⟨0, Nat.zero_le _, rfl, fun q x h => absurd h (Nat.not_lt_zero q), hB0⟩
    case round =>
      clear hB0
      obtain ⟨k, hk, rfl, hq, hB0⟩ := hrel
      have HQ := Lib.hid hq
      clear hq
      rcases Nat.lt_or_eq_of_le hk with hkn | rfl
      · obtain ⟨⟨nm, ⟨A1, n1, c1⟩, A2, n2, c2⟩, hc⟩ : ∃ t, l[k]? = some t := ⟨_, List.getElem?_eq_getElem hkn⟩
        obtain ⟨b, o, rfl, -, hb, r0, r1, r2⟩ := jbv_cells (hl.below hB0) hc
        dsimp only at r0 r1 r2
        have hi0 : (0 : Int) ≤ k := by omega
        have hi1 : (k : Int) < l.length := by omega
        have HC := Lib.hid hc
        have HKK := Lib.hid (show k + 1 ≤ l.length from hkn)
        have HKM := Lib.hid (show l.length - (k + 1) < l.length - k by omega)
        obtain ⟨wk1, wk2⟩ := wrapsV (show k < 1048576 by have := HS.out.2; omega)
        clear hc
        obtain ⟨d1, hd1⟩ : ∃ b, decide ((60 : Int) < (nm.size : Int)) = b := ⟨_, rfl⟩
        obtain ⟨d2, hd2⟩ : ∃ b, decide ((11 : Int) < (n1 : Int)) = b := ⟨_, rfl⟩
        obtain ⟨d3, hd3⟩ : ∃ b, decide ((11 : Int) < (n2 : Int)) = b := ⟨_, rfl⟩
        cases d1 with
        | true =>
          go_wp2
          go_ret
          exact shortJ_mk false (fun h => by cases h) hB0
        | false =>
        cases d2 with
        | true =>
          go_wp2
          go_ret
          exact shortJ_mk false (fun h => by cases h) hB0
        | false =>
        cases d3 with
        | true =>
          go_wp2
          go_ret
          exact shortJ_mk false (fun h => by cases h) hB0
        | false =>
          have hN : n1 ≤ 11 ∧ n2 ≤ 11 := by
            have h1 := of_decide_eq_false hd2
            have h2 := of_decide_eq_false hd3
            omega
          have HN := Lib.hid hN
          clear hN
          go_wp2
          go_roundw
          case rel =>
            refine ⟨k + 1, HKK.out, by simp, fun q x h1 h2 => ?_, hB0⟩
            rcases Nat.lt_or_eq_of_le (Nat.le_of_lt_succ h1) with h3 | rfl
            · exact HQ.out q x h3 h2
            · obtain rfl := Option.some.inj (HC.out.symm.trans h2)
              exact HN.out
          case measure => exact HKM.out
      · go_wp2
        go_ret
        exact shortJ_mk true (fun _ => ⟨HS.out.1, HS.out.2, fun q x h => HQ.out q x (List.getElem?_eq_some_iff.1 h).1 h⟩) hB0)
end Go.Proofs
end
