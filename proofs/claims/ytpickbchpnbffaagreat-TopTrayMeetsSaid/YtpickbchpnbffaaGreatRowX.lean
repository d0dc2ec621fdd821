import Derived.Test.YtpickbchpnbffaaGreatHeldF
import Derived.Test.YtpickbchpnbffaaGreatSetOf
import Derived.Test.YtpickbchpnbffaaGreatDistP
section
/- bite: meetings, its iterator. -/
namespace Go.Proofs
open Go.RowKit Go.Shelf
set_option maxHeartbeats 16000000
set_option maxRecDepth 1000000
attribute [local go_sem] Oper.semAt_some
theorem fence_wide_fnB (f : FuncId) : Fence.wide.fn f = True := rfl
attribute [local go_sem] fence_wide_fnB
theorem Sl.stay {w w' : World} {v : Value} {l : List Cel} (h : Sl w v l) (hs : w.heap.size ≤ w'.heap.size) (hb : ∀ k, k < w.heap.size → w'.heap[k]? = w.heap[k]?) : Sl w' v l := by
  rcases h with h | ⟨ad, cap, rfl, h⟩
  · exact .inl h
  · refine .inr ⟨ad, cap, rfl, fun h0 => ?_⟩
    obtain ⟨h1, h2, h3⟩ := h h0
    have hblk := hb _ h2
    refine ⟨h1, Nat.lt_of_lt_of_le h2 hs, fun i c hi => ?_⟩
    obtain ⟨r0, r1, r2⟩ := h3 i c hi
    exact ⟨(World.cell?_of_block (a := ⟨ad.block, _, none⟩) hblk).trans r0, (World.cell?_of_block (a := ⟨ad.block, _, none⟩) hblk).trans r1, (World.cell?_of_block (a := ⟨ad.block, _, none⟩) hblk).trans r2⟩
/-- The bite lies in its variable, and all that was there at the beginning is as it was. -/
def AtB (w0 : World) (Bb : Nat) (vu vl vp : Value) (A : World) : Prop := A.heap[Bb]? = some (.cells #[vu, vl, vp] 31 (0, 0)) ∧ w0.heap.size ≤ A.heap.size ∧ ∀ k, k < w0.heap.size → A.heap[k]? = w0.heap[k]?
theorem AtB.bit {w0 A : World} {Bb : Nat} {vu vl vp : Value} {u l p : List Cel} (h : AtB w0 Bb vu vl vp A) (hs : BitS w0 vu vl vp u l p) : BitS A vu vl vp u l p := ⟨hs.su.stay h.2.1 h.2.2, hs.sl.stay h.2.1 h.2.2, hs.sp.stay h.2.1 h.2.2⟩
theorem AtB.below {w0 A B : World} {Bb : Nat} {vu vl vp : Value} (h : AtB w0 Bb vu vl vp A) (hb : Below A.heap.size A B) : AtB w0 Bb vu vl vp B :=
  ⟨(hb.block _ (Array.getElem?_eq_some_iff.1 h.1).1).trans h.1, Nat.le_trans h.2.1 hb.size, fun k hk => (hb.block k (Nat.lt_of_lt_of_le hk h.2.1)).trans (h.2.2 k hk)⟩
/-- One meeting as the iterator tells it. -/
structure MeetX (u l p : List Cel) where
  k : Nat
  hk : k < p.length
  A1 : Option Addr
  A2 : Option Addr
  c1 : Nat
  c2 : Nat
def MeetX.val {u l p : List Cel} (x : MeetX u l p) : Value := .agg #[.slice x.A1 (hitB u l (p[x.k]'x.hk)).length x.c1, .slice x.A2 (conM u l (p[x.k]'x.hk)).length x.c2]
def MeetX.enc {u l p : List Cel} (x : MeetX u l p) : Array Value := #[.int .i64 x.k, x.val]
/-- What a round keeps for the iterator. -/
def KpB (w0 : World) (Bb : Nat) (vu vl vp : Value) (X Y : World) : Prop := (AtB w0 Bb vu vl vp X → AtB w0 Bb vu vl vp Y) ∧ ∀ m S, CSet X m S → CSet Y m S
theorem bitMeet1_in (n : Nat) (hn : 1 ≤ n) (ll Bb : Nat) (w0 : World) (u l p : List Cel) (vu vl vp : Value) (hs : BitS w0 vu vl vp u l p) (ok : BiteOk u l p) (J : Nat → World → Prop) (Jx : World → Prop)
    (hJ : ∀ j A B, J j A → Below A.heap.size A B → J j B) (hJa : ∀ j A, J j A → AtB w0 Bb vu vl vp A)
    (hY : ∀ (x : MeetX u l p) W, J x.k W → YieldAt Fence.wide (n - 1) Tryz.prog ll x.enc W fun e W' => (e = .returned (.bool true) ∧ J (x.k + 1) W' ∧ KpB w0 Bb vu vl vp W W') ∨ (e = .returned (.bool false) ∧ Jx W'))
    (W : World) (h0 : J 0 W) :
    CallsIn Fence.wide n Tryz.prog 68 #[.func (.yield ll) #[] #[], .pointer (some ⟨Bb, 0, none⟩)] W fun e W' => (∃ v, e = .returned v) ∧ (J p.length W' ∨ Jx W') := by
  have hlp := ok.path.len
  obtain ⟨lu, nu, -⟩ := chkI_zero.1 ok.cu
  have ll' := (chkI_zero.1 ok.cl).1
  obtain ⟨U, uc, rfl⟩ := hs.su.form
  obtain ⟨A, ac, rfl⟩ := hs.sl.form
  obtain ⟨P, pc, rfl⟩ := hs.sp.form
  have hat := hJa _ _ h0
  obtain ⟨d0, d1, d2⟩ := three_cellsB hat.1
  have q1 := bitSetOf_ok l _ W (hat.bit hs).sl (by unfold maxLen; omega)
  refine callsIn_of_wp Tryz.func68 rfl trivial ?_ rfl
  simp only [Tryz.ntmps68, List.size_toArray, List.length_cons, List.length_nil, Nat.reduceAdd, Nat.reduceSub, Array.replicate_succ, Array.replicate_zero, List.push_toArray, List.append_toArray, List.nil_append, List.cons_append]
  gi_wp2
  refine (callsIn_wide.2 q1).mono ?_
  rintro e w1 ⟨m, rfl, -, hset, hB1⟩
  have hJ1 := hJ _ _ _ h0 hB1
  obtain ⟨d0, d1, d2⟩ := three_cellsB (hJa _ _ hJ1).1
  clear q1 hat h0 hB1
  gi_wp2
  gi_loopw [12] (fun i wr => ∃ j : Nat, i = .int .i64 j ∧ j ≤ p.length ∧ J j wr ∧ CSet wr m (setL l)) (fun i _ => p.length - (intOf i).toNat)
  case atStart => exact ⟨0, rfl, Nat.zero_le _, hJ1, hset⟩
  case round =>
    clear hJ1 hset d0 d1 d2
    obtain ⟨j, rfl, hj, hJj, hset⟩ := hrel
    rename World => w2
    have hat := hJa _ _ hJj
    rcases Nat.lt_or_eq_of_le hj with hjn | rfl
    · obtain ⟨b, o, x, y, z, rfl, -, hb, hc, r0, r1, r2⟩ := (hat.bit hs).sp.cells hjn
      have hpj : p[j]'hjn = (x, y, z) := by
        rw [List.getElem?_eq_getElem hjn] at hc
        exact Option.some.inj hc
      have hns := path_at ok.path hc
      obtain ⟨f0, f1, f2⟩ := three_cellsB hat.1
      have hBb : Bb < w2.heap.size := (Array.getElem?_eq_some_iff.1 hat.1).1
      have hBn : Bb ≠ w2.heap.size := by omega
      obtain ⟨W3, hW3⟩ : ∃ W3, W3 = w2.alloc (.cells #[.int .i64 x, .int .i64 y, .int .i64 z] 34) := ⟨_, rfl⟩
      have hb3 : Below w2.heap.size w2 W3 := by rw [hW3]; exact below_alloc _ _
      have hc3 : W3.heap[w2.heap.size]? = some (.cells #[.int .i64 x, .int .i64 y, .int .i64 z] 34 (0, 0)) := by rw [hW3]; exact heap_alloc_new w2 _
      have hJ3 := hJ _ _ _ hJj hb3
      have hat3 := hJa _ _ hJ3
      have hset3 := hset.below hb3 hset.lt
      obtain ⟨e0, e1, e2⟩ := three_cellsB hc3
      obtain ⟨d0, d1, d2⟩ := three_cellsB hat3.1
      have kM := bitMeet_ok u l _ m (x, y, z) W3 (hat3.bit hs).su hset3 lu nu hns
      unfold MeetE cellV at kM
      dsimp only at kM
      have hj0 : (0 : Int) ≤ j := by omega
      have hj1 : (j : Int) < p.length := by omega
      have wj := wrapS (n := (j : Int) + 1) (by omega)
      clear hc hat hat3 hc3 hset hJj
      gi_wp2
      rw [← hW3]
      clear hW3 f0 f1 f2 hBb hBn
      refine (callsIn_wide.2 kM).mono ?_
      rintro e w4 ⟨A1, A2, c1, c2, rfl, -, -, hB4⟩
      have hJ4 := hJ _ _ _ hJ3 hB4
      have hset4 := hset3.below hB4 hset3.lt
      obtain ⟨fn, tmps, assign, body, hyd, hR⟩ := hY ⟨j, hjn, A1, A2, c1, c2⟩ w4 hJ4
      unfold MeetX.enc MeetX.val at hyd
      dsimp only at hyd hR
      rw [hpj] at hyd
      clear kM
      gi_wp2
      refine hR.mono ?_
      rintro e w5 (⟨rfl, hJ5, hK5⟩ | ⟨rfl, hJx⟩)
      · have hset5 := hK5.2 _ _ hset4
        clear hyd hR
        gi_wp2
        exact ⟨⟨j + 1, rfl, hjn, hJ5, hset5⟩, by simp [intOf]; omega⟩
      · clear hyd hR
        gi_wp2
        exact bodyPost_ret (results_none rfl _ _ _) rfl ⟨⟨_, rfl⟩, .inr hJx⟩
    · gi_wp2
      go_end0
      exact ⟨⟨_, rfl⟩, .inl hJj⟩
theorem bitMeet_stops (n : Nat) (hn : 1 ≤ n) (Bb : Nat) (w0 : World) (u l p : List Cel) (vu vl vp : Value) (hs : BitS w0 vu vl vp u l p) (ok : BiteOk u l p) (w : World) (hAt : AtB w0 Bb vu vl vp w) :
    SeqStopsK Fence.wide n Tryz.prog 68 #[.pointer (some ⟨Bb, 0, none⟩)] (fun x : MeetX u l p => x.enc) (KpB w0 Bb vu vl vp) (fun ys => ys.map (·.k) = List.range p.length) (fun _ => True) p.length w := fun ll J Jx W hW hJ hJx hY h0 => by
  refine (bitMeet1_in n hn ll Bb w0 u l p vu vl vp hs ok (fun j A => ∃ pre : List (MeetX u l p), pre.map (·.k) = List.range j ∧ J pre A ∧ AtB w0 Bb vu vl vp A) (fun A => ∃ pre, Jx pre A) (fun j A B h hAB => ?_) (fun j A h => ?_) (fun x W' h => ?_) W ⟨[], rfl, h0, hAt.below hW⟩).mono ?_
  · obtain ⟨pre, h1, h2, h3⟩ := h
    exact ⟨pre, h1, hJ _ A B none h2 ⟨hAB.os, hAB.tape, hAB.output, hAB.size, fun i hi _ => hAB.block i hi⟩ (fun r e => by cases e), h3.below hAB⟩
  · obtain ⟨pre, h1, h2, h3⟩ := h
    exact h3
  · obtain ⟨pre, h1, h2, h3⟩ := h
    have hlen : pre.length = x.k := by
      have := congrArg List.length h1
      simpa using this
    obtain ⟨fn, tmps, assign, body, hyd, hR⟩ := hY pre x W' h2 (by rw [hlen]; exact x.hk)
    refine ⟨fn, tmps, assign, body, hyd, hR.mono ?_⟩
    rintro e V (⟨rfl, hJ', hk⟩ | ⟨rfl, hJx'⟩)
    · exact .inl ⟨rfl, ⟨pre ++ [x], by rw [List.map_append, h1, List.range_succ]; rfl, hJ', hk.1 h3⟩, hk⟩
    · exact .inr ⟨rfl, _, hJx'⟩
  · rintro e V ⟨hv, ⟨pre, h1, h2, _⟩ | ⟨pre, hJx'⟩⟩
    · exact ⟨hv, .inl ⟨pre, h1, h2⟩⟩
    · exact ⟨hv, .inr ⟨pre, trivial, hJx'⟩⟩
theorem bitMeetings_ok (vu vl vp : Value) (w : World) :
    Calls Tryz.prog 28 #[bitV vu vl vp] w fun e w' => e = .returned (.func (.func 68) #[] #[.pointer (some ⟨w.heap.size, 0, none⟩)]) ∧ w' = w.alloc (.cells #[vu, vl, vp] 31) := by
  have hmf := bitMake
  unfold bitV
  go_enter Tryz.func28, Tryz.ntmps28
  go_wp2
  go_ret
  exact ⟨rfl, rfl⟩
end Go.Proofs
end

section
/- Slices of ints: what a slice value reads as. -/
namespace Go.Proofs
open Go.RowKit
set_option maxRecDepth 1000000
def valI (x : Int) : Value := .int .i64 x
def IAt (w : World) (b o : Nat) (l : List Int) : Prop := ∀ i x, l[i]? = some x → w.cell? ⟨b, o + i, none⟩ = some (.int .i64 x)
/-- A slice value that reads as a list of ints: nil, empty or not. -/
def SlI (w : World) (v : Value) (l : List Int) : Prop :=
  (v = .slice none 0 0 ∧ l = []) ∨ ∃ (a : Addr) (cap : Nat), v = .slice (some a) l.length cap ∧ (l ≠ [] → a.spot = none ∧ a.block < w.heap.size ∧ IAt w a.block a.off l)
theorem IAt.below {w w' : World} {b o : Nat} {l : List Int} (h : IAt w b o l) {B : Nat} (hb : Below B w w') (hB : b < B) : IAt w' b o l := fun i x hi => (hb.cell (p := ⟨b, _, none⟩) hB).trans (h i x hi)
theorem SlI.below {w w' : World} {v : Value} {l : List Int} (h : SlI w v l) (hb : Below w.heap.size w w') : SlI w' v l := by
  rcases h with h | ⟨a, cap, rfl, h⟩
  · exact .inl h
  · refine .inr ⟨a, cap, rfl, fun hl => ?_⟩
    obtain ⟨h1, h2, h3⟩ := h hl
    exact ⟨h1, Nat.lt_of_lt_of_le h2 hb.size, h3.below hb h2⟩
theorem SlI.row {w : World} {b o cap : Nat} {l : List Int} (h : IAt w b o l) (hb : b < w.heap.size) : SlI w (.slice (some ⟨b, o, none⟩) l.length cap) l := .inr ⟨_, cap, rfl, fun _ => ⟨rfl, hb, h⟩⟩
theorem SlI.form {w : World} {v : Value} {l : List Int} (h : SlI w v l) : ∃ (A : Option Addr) (cap : Nat), v = .slice A l.length cap := by
  rcases h with ⟨rfl, rfl⟩ | ⟨a, cap, rfl, _⟩
  · exact ⟨none, 0, rfl⟩
  · exact ⟨some a, cap, rfl⟩
/-- The int at a place. -/
theorem SlI.cells {w : World} {A : Option Addr} {n cap : Nat} {l : List Int} (h : SlI w (.slice A n cap) l) {k : Nat} (hk : k < l.length) :
    ∃ b o x, A = some ⟨b, o, none⟩ ∧ n = l.length ∧ b < w.heap.size ∧ l[k]? = some x ∧ w.cell? ⟨b, o + k, none⟩ = some (.int .i64 x) := by
  rcases h with ⟨_, rfl⟩ | ⟨a, cap', e, h⟩
  · exact absurd hk (Nat.not_lt_zero k)
  · injection e with e1 e2 _
    obtain ⟨h1, h2, h3⟩ := h (fun e => by subst e; exact absurd hk (Nat.not_lt_zero k))
    obtain ⟨b, o, s⟩ := a
    obtain rfl : s = none := h1
    exact ⟨b, o, _, e1, e2, h2, List.getElem?_eq_getElem hk, h3 k _ (List.getElem?_eq_getElem hk)⟩
/-- The address of a slice with elements. -/
theorem SlI.addr {w : World} {A : Option Addr} {n cap : Nat} {l : List Int} (h : SlI w (.slice A n cap) l) (hl : 0 < l.length) : ∃ b o, A = some ⟨b, o, none⟩ ∧ b < w.heap.size ∧ IAt w b o l := by
  rcases h with ⟨_, rfl⟩ | ⟨a, cap', e, h⟩
  · exact absurd hl (Nat.not_lt_zero _)
  · injection e with e1 e2 _
    obtain ⟨h1, h2, h3⟩ := h (fun e => by subst e; exact absurd hl (Nat.not_lt_zero _))
    obtain ⟨b, o, s⟩ := a
    obtain rfl : s = none := h1
    exact ⟨b, o, e1, h2, h3⟩
/-- A row of ints of a call's own. -/
def OwnI (T : TypeId) (w : World) (B : Nat) (v : Value) (l : List Int) : Prop := w.ownsRow B T 1 v l.length (l.map valI)
theorem OwnI.at_ {T : TypeId} {w : World} {B g n cap : Nat} {l : List Int} (h : OwnI T w B (.slice (some ⟨g, 0, none⟩) n cap) l) (hn : n = l.length) : IAt w g 0 l := fun i x hi => by
  subst hn
  have hl : i < l.length := (List.getElem?_eq_some_iff.1 hi).1
  have := World.ownsRow.cellAt h i (by omega)
  rw [Nat.zero_add, this, List.getElem?_map, hi]
  rfl
theorem OwnI.form {T : TypeId} {w : World} {B : Nat} {v : Value} {l : List Int} (h : OwnI T w B v l) : (v = .slice none 0 0 ∧ l = []) ∨ ∃ g cap, v = .slice (some ⟨g, 0, none⟩) l.length cap ∧ B ≤ g ∧ g < w.heap.size ∧ IAt w g 0 l := by
  have h' := h
  rcases h.2 with ⟨h1, h2⟩ | ⟨g, cap, cur, rfl, hB, hg, _⟩
  · exact .inl ⟨h1, List.eq_nil_of_length_eq_zero h2⟩
  · exact .inr ⟨g, cap, rfl, hB, (Array.getElem?_eq_some_iff.1 hg).1, OwnI.at_ h' rfl⟩
theorem OwnI.sl {T : TypeId} {w : World} {B : Nat} {v : Value} {l : List Int} (h : OwnI T w B v l) : SlI w v l := by
  rcases h.form with h | ⟨g, cap, rfl, _, hg, hr⟩
  · exact .inl h
  · exact .row hr hg
theorem OwnI.store {T : TypeId} {w : World} {B g n cap : Nat} {l : List Int} (h : OwnI T w B (.slice (some ⟨g, 0, none⟩) n cap) l) (hn : n = l.length) {k : Nat} (x : Int) :
    OwnI T (w.setCell ⟨g, k, none⟩ (.int .i64 x)) B (.slice (some ⟨g, 0, none⟩) n cap) (l.set k x) := by
  subst hn
  have h1 := (World.ownsRow.stored h k (.int .i64 x)).1
  unfold OwnI
  rw [List.length_set, List.map_set]
  exact h1
theorem OwnI.alloc {T : TypeId} {w : World} {B : Nat} {v : Value} {l : List Int} (h : OwnI T w B v l) (o : Obj) : OwnI T (w.alloc o) B v l := World.ownsRow.alloc h o
theorem OwnI.keep {T : TypeId} {w w' : World} {B : Nat} {v : Value} {l : List Int} (h : OwnI T w B v l) (hb : Below w.heap.size w w') : OwnI T w' B v l := by
  refine ⟨h.1, ?_⟩
  rcases h.2 with h1 | ⟨g, cap, cur, rfl, hB, hg, r⟩
  · exact .inl h1
  · refine .inr ⟨g, cap, cur, rfl, hB, ?_, r⟩
    rw [hb.block g (Array.getElem?_eq_some_iff.1 hg).1]
    exact hg
end Go.Proofs
end

section
/- A part of what DeC had: RowX, RowX.at_, RowX.below, RowX.cell, RowX.fz, RowX.keep, RowX.lt, RowX.made, R. -/
namespace Go.Proofs
open Go.RowKit
set_option maxHeartbeats 8000000
set_option maxRecDepth 1000000
/-- A row of ints, known to the element. -/
def RowX (w : World) (t : TypeId) (g : Nat) (l : List Int) : Prop := w.heap[g]? = some (.cells (l.map valI).toArray t (0, 0))
theorem RowX.lt {w : World} {t : TypeId} {g : Nat} {l : List Int} (h : RowX w t g l) : g < w.heap.size := (Array.getElem?_eq_some_iff.1 h).1
theorem RowX.cell {w : World} {t : TypeId} {g : Nat} {l : List Int} (h : RowX w t g l) {i : Nat} {x : Int} (hi : l[i]? = some x) : w.cell? ⟨g, i, none⟩ = some (.int .i64 x) := by
  rw [cell_of_row w g i _ _ _ h]
  simp [hi, valI]
theorem RowX.at_ {w : World} {t : TypeId} {g : Nat} {l : List Int} (h : RowX w t g l) : IAt w g 0 l := fun i x hi => by
  rw [Nat.zero_add]
  exact h.cell hi
theorem RowX.fz {w : World} {t : TypeId} {g : Nat} {l : List Int} (h : RowX w t g l) (i : Nat) : w.frozen? ⟨g, i, none⟩ = false := frozen_of_row w g i _ _ h
theorem RowX.set {w : World} {t : TypeId} {g : Nat} {l : List Int} (h : RowX w t g l) (i : Nat) (x : Int) : RowX (w.setCell ⟨g, i, none⟩ (.int .i64 x)) t g (l.set i x) := by
  have := heap_setCell_same w g i _ t (.int .i64 x) h
  unfold RowX
  rw [this]
  simp [List.map_set, valI]
theorem RowX.keep {w w' : World} {t : TypeId} {g : Nat} {l : List Int} (h : RowX w t g l) (hb : w'.heap[g]? = w.heap[g]?) : RowX w' t g l := hb.trans h
theorem RowX.below {w w' : World} {t : TypeId} {g : Nat} {l : List Int} (h : RowX w t g l) (hb : Below w.heap.size w w') : RowX w' t g l := h.keep (hb.block g h.lt)
theorem RowX.made {w : World} {t : TypeId} {B g n : Nat} (h : w.ownsRow B t 1 (.slice (some ⟨g, 0, none⟩) n n) n (madeCells #[Value.int .i64 0] n).toList) : RowX w t g (List.replicate n 0) := by
  obtain ⟨-, ⟨h1, -⟩ | ⟨g', cap, cur, h1, -, h2, -, -, h3, h4⟩⟩ := h
  · cases h1
  · injection h1 with e1 e2 e3
    injection e1 with e1
    injection e1 with e1
    subst e1
    subst e3
    unfold RowX
    rw [h2]
    congr 1
    congr 1
    apply Array.ext'
    rw [List.take_of_length_le (by simp [h3])] at h4
    rw [h4]
    refine List.ext_getElem (by simp [madeCells]) fun i h1 h2 => ?_
    simp [madeCells, valI, Nat.mod_one]
end Go.Proofs
end
