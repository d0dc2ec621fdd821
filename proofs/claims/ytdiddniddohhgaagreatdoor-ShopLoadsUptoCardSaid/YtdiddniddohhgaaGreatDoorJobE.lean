import Derived.Test.YtdiddniddohhgaaGreatDoorJobC
section
/- Jobs: when a job ends. -/
namespace Go.Proofs
open Go.RowKit
set_option maxHeartbeats 16000000
set_option maxRecDepth 1000000
theorem wrapsK {k n : Nat} (h : k < n) (hn : n ≤ 100000) : wrap64 ((k : Int) + 1) = (k : Int) + 1 ∧ IntKind.i64.wrap ((k : Int) + 1) = (k : Int) + 1 :=
  ⟨wrap64_small (by omega), wrap_small (by omega)⟩
theorem ends_ok (nm : ByteArray) (vt vd vs : Value) (t d st : List Int) (m : Nat) (B : Int) (w : World) (ht : SlI w vt t) (hf : SlI w vs st) (hj : JobOk m (nm, t, d)) (hfr : FreeOk m B st) (hB : B ≤ 900000000) :
    Calls Tryz.prog 66 #[jobV nm vt vd, vs] w fun e w' => (∃ u, e = .returned u ∧ OwnI 3 w' w.heap.size u (endsP t st)) ∧ Below w.heap.size w w' := by
  have kC := fun W (h : SlI W vs st) => cloneI_ok st vs W h (by have := hfr.1; have := hj.few; omega)
  unfold jobV
  obtain ⟨W0, hW⟩ : ∃ W0, W0 = w.alloc (.cells #[.string nm, vt, vd] 132) := ⟨_, rfl⟩
  have hB0 : Below w.heap.size w W0 := by subst hW; exact (Below.refl _ _).alloc (Nat.le_refl _) _
  have rj : RowK W0 132 w.heap.size [.string nm, vt, vd] := by subst hW; exact heap_alloc_new w _
  obtain ⟨At, ct, rfl⟩ := ht.form
  have kC0 := kC W0 (hf.below hB0)
  clear kC
  go_enter Tryz.func66, Tryz.ntmps66
  go_wp2_with fail
  rw [← hW]
  clear hW
  refine kC0.mono ?_
  rintro e w1 ⟨⟨u, rfl, hu⟩, hB1⟩
  clear kC0 hf
  have hz0 : w.heap.size < W0.heap.size := rj.lt
  have hlt : t.length = st.length := by have h1 := hj.t; have h2 := hfr.1; dsimp only at h1; omega
  have htl : t.length ≤ 8 := by have h1 := hj.t; have h2 := hj.few; dsimp only at h1; omega
  have cj1 : w1.cell? ⟨w.heap.size, 1, none⟩ = some (.slice At t.length ct) := (rj.below hB1).cell (by rfl)
  have HL := Lib.hid hlt
  have HF := Lib.hid (And.intro hj hfr)
  clear hlt hj hfr
  rcases hu.form with ⟨hu0, h0⟩ | ⟨g, cap, rfl, hg0, hg1, -⟩
  · subst hu0
    have htn : t = [] := List.eq_nil_of_length_eq_zero (by rw [HL.out, h0]; rfl)
    subst h0
    subst htn
    have HU := Lib.hid (hu.lower (B := w.heap.size) hB0.size)
    clear hu
    go_wp2_with fail
    go_loopw [13] (fun i wr => i = .int .i64 0 ∧ wr = w1) (fun _ _ => 0)
    case atStart => exact ⟨rfl, rfl⟩
    case round =>
      obtain ⟨rfl, rfl⟩ := hrel
      go_wp2_with fail
      go_ret
      exact ⟨⟨_, rfl, HU.out⟩, hB0.trans (hB1.mono hB0.size)⟩
  go_wp2_with fail
  go_loopw [13] (fun i wr => ∃ k : Nat, k ≤ t.length ∧ i = .int .i64 k ∧ OwnI 3 wr W0.heap.size (.slice (some ⟨g, 0, none⟩) st.length cap) (preE t st k) ∧ Below W0.heap.size W0 wr) (fun i _ => t.length - (intOf i).toNat)
  case atStart => exact ⟨0, Nat.zero_le _, rfl, hu, hB1⟩
  case round =>
    obtain ⟨k, hk, rfl, ho, hX⟩ := hrel
    rcases Nat.lt_or_eq_of_le hk with hkn | rfl
    · have hks : k < st.length := by have := HL.out; omega
      obtain ⟨bt, ot, y, hAt, -, hbt, hy, rt⟩ := (ht.below (hB0.trans (hX.mono hB0.size))).cells hkn
      subst hAt
      obtain ⟨x, hx⟩ : ∃ x, (preE t st k)[k]? = some x := ⟨_, List.getElem?_eq_getElem (by rw [preE_len]; exact hks)⟩
      have hq := ho.at_ (preE_len t st k).symm k x hx
      rw [Nat.zero_add] at hq
      have hxa := at0_some hx
      have hya := at0_some hy
      have hbd : 0 ≤ y ∧ y ≤ 1440 := HF.out.1.tb y (List.mem_of_getElem? hy)
      have hxb : 0 ≤ x ∧ x ≤ 900000000 := by
        rw [preE_at t st k (by omega) k, if_neg (by omega)] at hxa
        have := (HF.out.2).2 k
        omega
      have hnext : (preE t st k).set k (x + y) = preE t st (k + 1) := by
        show _ = (preE t st k).set k (at0 (preE t st k) k + at0 t k)
        rw [hxa, hya]
      have hst := ho.store (preE_len t st k).symm (k := k) (x + y)
      rw [hnext] at hst
      have hbs := hX.setCell (p := ⟨g, k, none⟩) hg0 (.int .i64 (x + y))
      have hfz : wr.frozen? ⟨g, k, none⟩ = false := by
        rcases ho.2 with ⟨h1, _⟩ | ⟨g', cap', cur, he, _, hgc, _⟩
        · cases h1
        · injection he with e1
          injection e1 with e1
          injection e1 with e1
          subst e1
          exact frozen_of_row wr g k _ _ hgc
      have hi0 : (0 : Int) ≤ k := by omega
      have hi1 : (k : Int) < t.length := by omega
      have hi2 : (k : Int) < st.length := by omega
      have HK := Lib.hid (show k + 1 ≤ t.length from hkn)
      have HM := Lib.hid (show t.length - (k + 1) < t.length - k by omega)
      have ws1 := wrap64_small (n := x + y) (by omega)
      have ws2 := wrap_small (n := x + y) (by omega)
      obtain ⟨wk1, wk2⟩ := wrapsK hkn (by omega)
      have HS := Lib.hid (And.intro hst hbs)
      clear hst hbs hnext hx hy hxa hya hbd hxb ho ht hu
      go_wp2_with fail
      go_roundw
      case rel => exact ⟨k + 1, HK.out, by simp, HS.out.1, HS.out.2⟩
      case measure => exact HM.out
    · have HO := Lib.hid (ho.lower (B := w.heap.size) hB0.size)
      clear ho hu
      go_wp2_with fail
      go_ret
      exact ⟨⟨_, rfl, HO.out⟩, hB0.trans (hX.mono hB0.size)⟩
end Go.Proofs
end

section
/- Jobs: the search for the best order: what it does, and its memory. -/
namespace Go.Proofs
open Go.RowKit
set_option maxHeartbeats 4000000
set_option maxRecDepth 1000000
abbrev StT := Option (List Nat × Int)
def lastI (l : List Int) : Int := at0 l (l.length - 1)
def cutB (s : StT) (e : Int) : Bool := match s with
  | none => false
  | some x => decide (x.2 ≤ e)
def jobD : JobT := (⟨#[]⟩, [], [])
def expl (js : List JobT) : Nat → List Nat → List Int → StT → StT
  | 0, order, free, s => if cutB s (lastI free) then s else if order.length = js.length then some (order, lastI free) else s
  | f + 1, order, free, s => if cutB s (lastI free) then s else if order.length = js.length then some (order, lastI free) else
      (List.range js.length).foldl (fun s i => if i ∈ order then s else expl js f (order ++ [i]) (goJ ((js[i]?).getD jobD) free) s) s
def bodyX (js : List JobT) (f : Nat) (order : List Nat) (free : List Int) (s : StT) (i : Nat) : StT := if i ∈ order then s else expl js f (order ++ [i]) (goJ ((js[i]?).getD jobD) free) s
def preX (js : List JobT) (f : Nat) (order : List Nat) (free : List Int) (s : StT) (k : Nat) : StT := (List.range k).foldl (bodyX js f order free) s
theorem preX_succ (js : List JobT) (f : Nat) (order : List Nat) (free : List Int) (s : StT) (k : Nat) : preX js f order free s (k + 1) = bodyX js f order free (preX js f order free s k) k := by
  unfold preX
  rw [List.range_succ, List.foldl_append]
  rfl
theorem expl_succ (js : List JobT) (f : Nat) (order : List Nat) (free : List Int) (s : StT) (h1 : cutB s (lastI free) = false) (h2 : order.length ≠ js.length) : expl js (f + 1) order free s = preX js f order free s js.length := by
  unfold expl
  rw [h1, if_neg (by simp), if_neg h2]
  rfl
theorem expl_cut (js : List JobT) (f : Nat) (order : List Nat) (free : List Int) (s : StT) (h1 : cutB s (lastI free) = true) : expl js f order free s = s := by
  cases f <;> (unfold expl; rw [if_pos h1])
theorem expl_full (js : List JobT) (f : Nat) (order : List Nat) (free : List Int) (s : StT) (h1 : cutB s (lastI free) = false) (h2 : order.length = js.length) : expl js f order free s = some (order, lastI free) := by
  cases f <;> (unfold expl; rw [h1, if_neg (by simp), if_pos h2])
def ints (p : List Nat) : List Int := p.map fun (i : Nat) => (i : Int)
theorem ints_snoc (p : List Nat) (i : Nat) : ints p ++ [(i : Int)] = ints (p ++ [i]) := by simp [ints]
theorem mem_ints {p : List Nat} {i : Nat} : (i : Int) ∈ ints p ↔ i ∈ p := by
  unfold ints
  rw [List.mem_map]
  constructor
  · rintro ⟨j, h1, h2⟩
    have : j = i := by omega
    exact this ▸ h1
  · exact fun h => ⟨i, h, rfl⟩
/-- A job at a place. -/
def JobAt (w : World) (b o : Nat) (j : JobT) : Prop := ∃ vt vd, w.cell? ⟨b, o, none⟩ = some (.string j.1) ∧ w.cell? ⟨b, o + 1, none⟩ = some vt ∧ w.cell? ⟨b, o + 2, none⟩ = some vd ∧ SlI w vt j.2.1 ∧ SlI w vd j.2.2
/-- A slice value that reads as a list of jobs. -/
def SlJ (w : World) (v : Value) (l : List JobT) : Prop :=
  (v = .slice none 0 0 ∧ l = []) ∨ ∃ (a : Addr) (cap : Nat), v = .slice (some a) l.length cap ∧ (l ≠ [] → a.spot = none ∧ a.block < w.heap.size ∧ ∀ i j, l[i]? = some j → JobAt w a.block (a.off + i * 3) j)
theorem JobAt.below {w w' : World} {b o : Nat} {j : JobT} (h : JobAt w b o j) (hb : Below w.heap.size w w') (hlt : b < w.heap.size) : JobAt w' b o j := by
  obtain ⟨vt, vd, h0, h1, h2, h3, h4⟩ := h
  exact ⟨vt, vd, (hb.cell (p := ⟨b, _, none⟩) hlt).trans h0, (hb.cell (p := ⟨b, _, none⟩) hlt).trans h1, (hb.cell (p := ⟨b, _, none⟩) hlt).trans h2, h3.below hb, h4.below hb⟩
theorem SlJ.below {w w' : World} {v : Value} {l : List JobT} (h : SlJ w v l) (hb : Below w.heap.size w w') : SlJ w' v l := by
  rcases h with h | ⟨a, cap, rfl, h⟩
  · exact .inl h
  · refine .inr ⟨a, cap, rfl, fun hl => ?_⟩
    obtain ⟨h1, h2, h3⟩ := h hl
    exact ⟨h1, Nat.lt_of_lt_of_le h2 hb.size, fun i j hi => (h3 i j hi).below hb h2⟩
theorem SlJ.form {w : World} {v : Value} {l : List JobT} (h : SlJ w v l) : ∃ (A : Option Addr) (cap : Nat), v = .slice A l.length cap := by
  rcases h with ⟨rfl, rfl⟩ | ⟨a, cap, rfl, _⟩
  · exact ⟨none, 0, rfl⟩
  · exact ⟨some a, cap, rfl⟩
theorem SlJ.addr {w : World} {v : Value} {l : List JobT} (h : SlJ w v l) (hp : 0 < l.length) : ∃ b o cap, v = .slice (some ⟨b, o, none⟩) l.length cap ∧ b < w.heap.size ∧ ∀ i j, l[i]? = some j → JobAt w b (o + i * 3) j := by
  rcases h with ⟨_, rfl⟩ | ⟨a, cap, rfl, h⟩
  · exact absurd hp (Nat.not_lt_zero _)
  · obtain ⟨h1, h2, h3⟩ := h (fun e => by subst e; exact absurd hp (Nat.not_lt_zero _))
    obtain ⟨b, o, s⟩ := a
    obtain rfl : s = none := h1
    exact ⟨b, o, cap, rfl, h2, h3⟩
def ptrN (b : Nat) : Value := .pointer (some ⟨b, 0, none⟩)
/-- Where the search's variables lie. -/
structure Bx (B1 B2 bb bl bj bx : Nat) : Prop where
  b1 : B1 ≤ bb
  l1 : B1 ≤ bl
  j1 : B1 ≤ bj
  x1 : B1 ≤ bx
  b2 : bb < B2
  l2 : bl < B2
  j2 : bj < B2
  x2 : bx < B2
  nbl : bb ≠ bl
  nbj : bb ≠ bj
  nbx : bb ≠ bx
  nlj : bl ≠ bj
  nlx : bl ≠ bx
def extV (bb bl bj bx : Nat) : Value := .func (.func 67) #[] #[ptrN bb, ptrN bl, ptrN bj, ptrN bx]
structure Ev (w1 : World) (B2 bb bl bj bx : Nat) (vl : Value) (w : World) : Prop where
  lj : RowK w 65 bj [vl]
  lx : RowK w 134 bx [extV bb bl bj bx]
  sz : B2 ≤ w.heap.size
  be : Below w1.heap.size w1 w
/-- Nothing old is turned but the two results and the order's own row. -/
structure FrX (B1 bb bl : Nat) (vo : Value) (w w' : World) : Prop where
  be : Below B1 w w'
  ot : ∀ g, g < w.heap.size → g ≠ bb → g ≠ bl → vo.ownBlock ≠ some g → w'.heap[g]? = w.heap[g]?
theorem FrX.refl (B1 bb bl : Nat) (vo : Value) (w : World) : FrX B1 bb bl vo w w := ⟨Below.refl _ _, fun _ _ _ _ _ => rfl⟩
theorem FrX.trans {B1 bb bl : Nat} {vo : Value} {w w' w'' : World} (h : FrX B1 bb bl vo w w') (h' : FrX B1 bb bl vo w' w'') : FrX B1 bb bl vo w w'' :=
  ⟨h.be.trans h'.be, fun g hg h1 h2 h3 => (h'.ot g (Nat.lt_of_lt_of_le hg h.be.size) h1 h2 h3).trans (h.ot g hg h1 h2 h3)⟩
theorem FrX.of_below {B1 bb bl : Nat} {vo : Value} {w w' : World} (hB : B1 ≤ w.heap.size) (h : Below w.heap.size w w') : FrX B1 bb bl vo w w' := ⟨h.mono hB, fun g hg _ _ _ => h.block g hg⟩
theorem Ev.fr {w1 : World} {B2 bb bl bj bx : Nat} {vl vo : Value} {w w' : World} (hx : Bx w1.heap.size B2 bb bl bj bx) (h : Ev w1 B2 bb bl bj bx vl w) (hf : FrX w1.heap.size bb bl vo w w') (hv : ∀ g, vo.ownBlock = some g → B2 ≤ g) : Ev w1 B2 bb bl bj bx vl w' :=
  ⟨h.lj.keep (hf.ot _ h.lj.lt (Ne.symm hx.nbj) (Ne.symm hx.nlj) (fun e => by have := hv _ e; have := hx.j2; omega)), h.lx.keep (hf.ot _ h.lx.lt (Ne.symm hx.nbx) (Ne.symm hx.nlx) (fun e => by have := hv _ e; have := hx.x2; omega)), Nat.le_trans h.sz hf.be.size, h.be.trans hf.be⟩
theorem Ev.below {w1 : World} {B2 bb bl bj bx : Nat} {vl : Value} {w w' : World} (h : Ev w1 B2 bb bl bj bx vl w) (hb : Below w.heap.size w w') : Ev w1 B2 bb bl bj bx vl w' :=
  ⟨h.lj.below hb, h.lx.below hb, Nat.le_trans h.sz hb.size, h.be.trans (hb.mono h.be.size)⟩
/-- What the search knows. -/
def StB (B2 bb bl : Nat) (w : World) (vb : Value) (s : StT) : Prop := ∃ least : Int, RowK w 23 bb [vb] ∧ RowK w 3 bl [.int .i64 least] ∧
  match s with
  | none => vb = .slice none 0 0
  | some x => OwnI 3 w B2 vb (ints x.1) ∧ x.1 ≠ [] ∧ least = x.2
theorem StB.keep {B2 bb bl : Nat} {w w' : World} {vb : Value} {s : StT} (h : StB B2 bb bl w vb s) (hb : w'.heap[bb]? = w.heap[bb]?) (hl : w'.heap[bl]? = w.heap[bl]?) (hv : ∀ g, vb.ownBlock = some g → w'.heap[g]? = w.heap[g]?) : StB B2 bb bl w' vb s := by
  obtain ⟨least, h1, h2, h3⟩ := h
  refine ⟨least, h1.keep hb, h2.keep hl, ?_⟩
  cases s with
  | none => exact h3
  | some x => exact ⟨h3.1.keepB hv, h3.2⟩
theorem StB.below {B2 bb bl : Nat} {w w' : World} {vb : Value} {s : StT} (h : StB B2 bb bl w vb s) (hb : Below w.heap.size w w') (hv : ∀ g, vb.ownBlock = some g → g < w.heap.size) : StB B2 bb bl w' vb s := by
  obtain ⟨least, h1, h2, h3⟩ := h
  exact StB.keep ⟨least, h1, h2, h3⟩ (hb.block _ h1.lt) (hb.block _ h2.lt) fun g e => hb.block _ (hv g e)
end Go.Proofs
end
