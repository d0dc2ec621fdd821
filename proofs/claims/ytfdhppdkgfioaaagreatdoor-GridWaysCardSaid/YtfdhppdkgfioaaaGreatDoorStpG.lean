/- stepsTo: the steps in a set to one of its cells, as far as they are asked for. -/
import Derived.Test.YtfdhppdkgfioaaaGreatDoorPartG
import Derived.Test.YtfdhppdkgfioaaaGreatDoorStillIn
import Derived.Test.YtfdhppdkgfioaaaGreatDoorPthC
namespace Go.Proofs
open Go.RowKit Go.Shelf
set_option maxHeartbeats 16000000
set_option maxRecDepth 1000000
attribute [local go_sem] Oper.semAt_some
/-- What the steps tell of the cell from which a path shall lead. -/
def StepsOut (l : List Cel) (to fr : Cel) (st : Cel → Option Nat) : Prop := (st fr = none → stC l to fr = none) ∧ ∀ n, st fr = some n → stC l to fr = some n ∧ Known l to st n
theorem stepsOut_end {l q : List Cel} {st : Cel → Option Nat} {to fr : Cel} {i j : Nat} (h : BfsI nearL (· ∈ l) to q st i j) (hi : q.length ≤ i) : StepsOut l to fr st := by
  have e := bfs_end h hi
  subst e
  exact ⟨fun hn => hn, fun n hn => ⟨hn, Known.of_end h hi n⟩⟩
theorem stepsOut_stop {l q : List Cel} {st : Cel → Option Nat} {to fr c : Cel} {i j m : Nat} (h : BfsI nearL (· ∈ l) to q st i j) (hc : q[i]? = some c) (hm : st c = some m) (hf : st fr = some (m + 1)) : StepsOut l to fr st := by
  refine ⟨fun hn => (by rw [hf] at hn; cases hn), fun n hn => ?_⟩
  rw [hf] at hn
  obtain rfl := Option.some.inj hn
  exact ⟨stC_iff.2 ((h.upto_dist hc hm fr).1 _ hf), Known.of_stop h hc hm⟩
theorem prefix_at {α : Type} {pre l : List α} {d : α} (h : pre ++ [d] <+: l) : l[pre.length]? = some d := by
  obtain ⟨t, rfl⟩ := h
  simp
theorem Keep1.atM {b : Nat} {W W' : World} {st : Cel → Option Nat} (hs : Steps W b st) (hk : Keep1 W.heap.size b W W') {k : Nat} {o : Obj} (h : W.heap[k]? = some o) (ho : ∀ es cl, o ≠ .map es cl) : W'.heap[k]? = some o := by
  obtain ⟨l, ⟨es, clock, q, _⟩, _⟩ := hs
  refine (hk.block k (Array.getElem?_eq_some_iff.1 h).1 fun e => ?_).trans h
  subst e
  rw [h] at q
  exact ho _ _ (Option.some.inj q)
/-- How far a loop has come whose number lies in a cell of its own. -/
def idxOf (a : Act) (W : World) (s : Nat) : Nat := match a.tmps.getD s undef with
  | .pointer (some ad) => (intOf ((W.cell? ad).getD undef)).toNat
  | _ => 0
theorem idxOf_is {a : Act} {W : World} {s k : Nat} {ad : Addr} (h : a.tmps.getD s undef = .pointer (some ad)) (hc : W.cell? ad = some (.int .i64 (k : Int))) : idxOf a W s = k := by
  unfold idxOf
  rw [h]
  dsimp only
  rw [hc]
  simp [intOf]
theorem Boxed.ne {W : World} {A B : Nat} {s t : TypeId} {u v : Value} (h : Boxed W A s u) (h2 : Boxed W B t v) (hne : s ≠ t) : A ≠ B := fun e => by
  subst e
  have h3 := Option.some.inj ((show W.heap[A]? = _ from h).symm.trans (show W.heap[A]? = _ from h2))
  injection h3 with _ h3 _
  exact hne h3
/-- The state of the search: w the world at the call. -/
structure StpS (w : World) (Ab Mb Lx Ib b bm : Nat) (l : List Cel) (to fr : Cel) (i j : Nat) (G : Prop) (st : Cel → Option Nat) (v : Value) (q : List Cel) (Ds : List Nat) (W : World) : Prop where
  all : Boxed W Ab 157 (.map (some b))
  set : CSet W b (setL l)
  mb : Boxed W Mb 95 (.map (some bm))
  stp : Steps W bm st
  met : Boxed W Lx 22 v
  own : Own W (w.heap.size + 2) v q
  frm : Boxed3 W (w.heap.size + 1) fr
  idx : Boxed W Ib 3 (.int .i64 (i : Int))
  qn : q.Nodup
  qs : ∀ d ∈ q, d ∈ l
  know : ∀ c, c ∈ q ↔ ∃ n, st c = some n
  bd : ∀ c n, st c = some n → n < q.length
  bfs : G → BfsI nearL (· ∈ l) to q st i j
  hLx : w.heap.size + 2 ≤ Lx
  hbm : w.heap.size ≤ bm
  hbb : b ≠ bm
  defs : Defs W (bm + 1) Ds
  below : Below w.heap.size w W
section
variable {w : World} {Ab Mb Lx Ib b bm : Nat} {l : List Cel} {to fr : Cel} {i j : Nat} {G : Prop} {st : Cel → Option Nat} {v : Value} {q : List Cel} {Ds : List Nat} {W W' : World}
theorem StpS.step (h : StpS w Ab Mb Lx Ib b bm l to fr i j G st v q Ds W) (B : Nat) (hos : W'.os = W.os) (htape : W'.tape = W.tape) (hout : W'.output = W.output) (hsize : W.heap.size ≤ W'.heap.size)
    (hk : ∀ (k : Nat) (o : Obj), W.heap[k]? = some o → (o.isCells = true ∨ k < B) → W'.heap[k]? = some o) (hb : b < B) (hbm : bm < B) (hD : ∀ D ∈ Ds, D < B) (hB : w.heap.size ≤ B) : StpS w Ab Mb Lx Ib b bm l to fr i j G st v q Ds W' := by
  refine ⟨hk _ _ h.all (.inl rfl), ?_, hk _ _ h.mb (.inl rfl), ?_, hk _ _ h.met (.inl rfl), ⟨h.own.1, h.own.2.imp id fun ⟨g, cap, cur, h1, h2, hg, r⟩ => ⟨g, cap, cur, h1, h2, hk g _ hg (.inl rfl), r⟩⟩, hk _ _ h.frm (.inl rfl), hk _ _ h.idx (.inl rfl), h.qn, h.qs, h.know, h.bd, h.bfs, h.hLx, h.hbm, h.hbb, ⟨h.defs.1, fun D hDm => ⟨(h.defs.2 D hDm).1, hk _ _ (h.defs.2 D hDm).2 (.inr (hD D hDm))⟩⟩, h.below.trans ⟨hos, htape, hout, hsize, fun k h1 => ?_⟩⟩
  · obtain ⟨es, clock, q1, q2⟩ := h.set
    exact ⟨es, clock, hk _ _ q1 (.inr hb), q2⟩
  · obtain ⟨tl, ⟨es, clock, q1, q2⟩, q3⟩ := h.stp
    exact ⟨tl, ⟨es, clock, hk _ _ q1 (.inr hbm), q2⟩, q3⟩
  · obtain ⟨o, ho⟩ : ∃ o, W.heap[k]? = some o := ⟨_, Array.getElem?_eq_getElem (Nat.lt_of_lt_of_le h1 h.below.size)⟩
    rw [ho]
    exact hk _ _ ho (.inr (by omega))
theorem StpS.turn {row : Option Nat} (h : StpS w Ab Mb Lx Ib b bm l to fr i j G st v q Ds W) (B : Nat) (hg : W.grownBy W' row) (hr : ∀ r, row = some r → B ≤ r ∧ ∃ o : Obj, W.heap[r]? = some o ∧ o.isCells = false) (hb : b < B) (hbm : bm < B) (hD : ∀ D ∈ Ds, D < B) (hB : w.heap.size ≤ B) : StpS w Ab Mb Lx Ib b bm l to fr i j G st v q Ds W' :=
  h.step B hg.os hg.tape hg.output hg.size (fun k o hk ho => (hg.block k (Array.getElem?_eq_some_iff.1 hk).1 fun e => by
    obtain ⟨h1, o', h2, h3⟩ := hr k e.symm
    rcases ho with ho | ho
    · rw [hk] at h2
      cases h2
      rw [ho] at h3
      cases h3
    · omega).trans hk) hb hbm hD hB
theorem StpS.keep (h : StpS w Ab Mb Lx Ib b bm l to fr i j G st v q Ds W) (hg : Below W.heap.size W W') : StpS w Ab Mb Lx Ib b bm l to fr i j G st v q Ds W' :=
  h.step W.heap.size hg.os hg.tape hg.output hg.size (fun k _ hk _ => (hg.block k (Array.getElem?_eq_some_iff.1 hk).1).trans hk) h.set.lt h.stp.lt (fun _ hD => h.defs.lt hD) h.below.size
end
theorem stepsTo_ok (to fr : Cel) (l : List Cel) (v : Value) (w : World) (hl : Sl w v l) (hn : l.length ≤ 4096) (hnear : ∀ c ∈ l, Near c 2000) (hto : to ∈ l) :
    Calls Tryz.prog 55 #[cellV to, v, cellV fr] w fun e w' => ∃ bm st, e = .returned (.map (some bm)) ∧ Steps w' bm st ∧ StepsOut l to fr st ∧ Below w.heap.size w w' := by
  obtain ⟨tx, ty, tz⟩ := to
  obtain ⟨fx, fy, fz⟩ := fr
  obtain ⟨W0, hW0⟩ : ∃ W, W = (w.alloc (.cells #[.int .i64 tx, .int .i64 ty, .int .i64 tz] 24)).alloc (.cells #[.int .i64 fx, .int .i64 fy, .int .i64 fz] 24) := ⟨_, rfl⟩
  have hB0 : Below w.heap.size w W0 := by subst hW0; exact ((Below.refl _ _).alloc (Nat.le_refl _) _).alloc (by simp) _
  have hCt : Boxed3 W0 w.heap.size (tx, ty, tz) := by subst hW0; exact (Below.heap_alloc _ _ _ (by simp)).trans (World.alloc_heap_new w _)
  have hCf : Boxed3 W0 (w.heap.size + 1) (fx, fy, fz) := by
    subst hW0
    have h := World.alloc_heap_new (w.alloc (.cells #[.int .i64 tx, .int .i64 ty, .int .i64 tz] 24)) (.cells #[.int .i64 fx, .int .i64 fy, .int .i64 fz] 24)
    rw [World.size_alloc] at h
    exact h
  have HS := Lib.hid (show W0.heap.size = w.heap.size + 2 by subst hW0; simp)
  have qS := setOf_ok l v W0 (hl.below hB0) (by unfold maxLen; omega)
  obtain ⟨A, cap, rfl⟩ := hl.form
  unfold cellV
  dsimp only
  refine (callsIn_wide (n := 3)).1 ?_
  refine callsIn_of_wp_marks Tryz.func55 rfl trivial ?_ rfl
  simp only [Tryz.ntmps55, List.size_toArray, List.length_cons, List.length_nil, Nat.reduceAdd, Nat.reduceSub, Array.replicate_succ, Array.replicate_zero, List.push_toArray, List.append_toArray, List.nil_append, List.cons_append]
  gi_wp2
  rw [← hW0]
  clear hW0
  try refine wpIn_scope_straight ?_
  gi_wp2
  refine ⟨trivial, (callsIn_wide.2 qS).mono ?_⟩
  rintro e w1 ⟨b, rfl, hb, hset, hB1⟩
  have hs0 : w.heap.size + 2 ≤ w1.heap.size := by have := hB1.size; have := HS.out; omega
  have hX1 : Below w.heap.size w w1 := hB0.trans (hB1.mono (by have := HS.out; omega))
  have hCt1 : Boxed3 w1 w.heap.size (tx, ty, tz) := (hB1.block _ (by have := HS.out; omega)).trans hCt
  have hCf1 : Boxed3 w1 (w.heap.size + 1) (fx, fy, fz) := (hB1.block _ (by have := HS.out; omega)).trans hCf
  have hbw : w.heap.size ≤ b := by have := HS.out; omega
  have hbl := hset.lt
  have hY : Below w1.heap.size w1 ((w1.alloc (.cells #[.map (some b)] 157)).alloc (.map #[] 0)) := ((Below.refl _ _).alloc (Nat.le_refl _) _).alloc (by simp) _
  have hA2 : Boxed ((w1.alloc (.cells #[.map (some b)] 157)).alloc (.map #[] 0)) w1.heap.size 157 (.map (some b)) := (Below.heap_alloc _ _ _ (by simp)).trans (World.alloc_heap_new w1 _)
  have hM2 : Steps ((w1.alloc (.cells #[.map (some b)] 157)).alloc (.map #[] 0)) (w1.heap.size + 1) (fun _ => none) := by
    have h := Steps.made (w1.alloc (.cells #[.map (some b)] 157))
    rwa [World.size_alloc] at h
  have hCt2 : Boxed3 ((w1.alloc (.cells #[.map (some b)] 157)).alloc (.map #[] 0)) w.heap.size (tx, ty, tz) := (hY.block _ (by omega)).trans hCt1
  obtain ⟨c0, c1, c2⟩ := hCt2.cell
  dsimp only at c0 c1 c2
  have hmk := run_makeMap_new 95 (w1.alloc (.cells #[.map (some b)] 157))
  rw [World.size_alloc] at hmk
  clear qS hB0 hCt hCf HS hb hl hB1
  obtain ⟨w3, hrun0, hM3, hg3⟩ := update_steps hM2 Tryz.underlying95 (tx, ty, tz) 0
  have hrun : (Instr.mapUpdate 95 (.map (some (w1.heap.size + 1))) (.agg #[.int .i64 tx, .int .i64 ty, .int .i64 tz]) (.int .i64 0)).run Tryz.prog ((w1.alloc (.cells #[.map (some b)] 157)).alloc (.map #[] 0)) = .ok () w3 := hrun0
  have hY3 : Below w1.heap.size w1 w3 := hY.grown hg3 (by simp; omega) fun k e => by cases e; omega
  have hA3 : Boxed w3 w1.heap.size 157 (.map (some b)) := (hg3.block _ (by simp; omega) (fun e => by injection e with e; omega)).trans hA2
  have hCt3 : Boxed3 w3 w.heap.size (tx, ty, tz) := (hY3.block _ (by omega)).trans hCt1
  obtain ⟨d0, d1, d2⟩ := hCt3.cell
  dsimp only at d0 d1 d2
  have hs3 : w1.heap.size + 2 ≤ w3.heap.size := by have := hg3.size; simp at this; omega
  have hY4 : Below w3.heap.size w3 (w3.alloc (.cells #[.map (some (w1.heap.size + 1))] 95)) := below_alloc _ _
  have hCt4 : Boxed3 (w3.alloc (.cells #[.map (some (w1.heap.size + 1))] 95)) w.heap.size (tx, ty, tz) := (hY4.block _ (by omega)).trans hCt3
  obtain ⟨e0, e1, e2⟩ := hCt4.cell
  dsimp only at e0 e1 e2
  clear hrun0 hM2 hg3 hY hA2 hCt2
  gi_wp2
  have hO5 : Own (((w3.alloc (.cells #[.map (some (w1.heap.size + 1))] 95)).alloc (.cells #[.int .i64 tx, .int .i64 ty, .int .i64 tz] 24)).alloc (.cells #[.slice (some ⟨w3.heap.size + 1, 0, none⟩) 1 1] 22)) (w.heap.size + 2) (.slice (some ⟨w3.heap.size + 1, 0, none⟩) 1 1) [(tx, ty, tz)] := by
    have h : Own ((w3.alloc (.cells #[.map (some (w1.heap.size + 1))] 95)).alloc (.cells #[.int .i64 tx, .int .i64 ty, .int .i64 tz] 24)) (w.heap.size + 2) (.slice (some ⟨(w3.alloc (.cells #[.map (some (w1.heap.size + 1))] 95)).heap.size, 0, none⟩) 1 1) [(tx, ty, tz)] := World.ownsRow_lit (w3.alloc (.cells #[.map (some (w1.heap.size + 1))] 95)) _ 1 (by simp; omega) (by unfold maxLen; omega) rfl
    rw [World.size_alloc] at h
    exact h.alloc _
  have hX5 : Below w3.heap.size w3 (((w3.alloc (.cells #[.map (some (w1.heap.size + 1))] 95)).alloc (.cells #[.int .i64 tx, .int .i64 ty, .int .i64 tz] 24)).alloc (.cells #[.slice (some ⟨w3.heap.size + 1, 0, none⟩) 1 1] 22)) := (hY4.alloc hY4.size _).alloc (by simp; omega) _
  have hM5 : Boxed (((w3.alloc (.cells #[.map (some (w1.heap.size + 1))] 95)).alloc (.cells #[.int .i64 tx, .int .i64 ty, .int .i64 tz] 24)).alloc (.cells #[.slice (some ⟨w3.heap.size + 1, 0, none⟩) 1 1] 22)) w3.heap.size 95 (.map (some (w1.heap.size + 1))) := ((Boxed.new _ _ _).alloc _).alloc _
  have hL5 : Boxed (((w3.alloc (.cells #[.map (some (w1.heap.size + 1))] 95)).alloc (.cells #[.int .i64 tx, .int .i64 ty, .int .i64 tz] 24)).alloc (.cells #[.slice (some ⟨w3.heap.size + 1, 0, none⟩) 1 1] 22)) (w3.heap.size + 1 + 1) 22 (.slice (some ⟨w3.heap.size + 1, 0, none⟩) 1 1) := by
    have h := World.alloc_heap_new ((w3.alloc (.cells #[.map (some (w1.heap.size + 1))] 95)).alloc (.cells #[.int .i64 tx, .int .i64 ty, .int .i64 tz] 24)) (.cells #[.slice (some ⟨w3.heap.size + 1, 0, none⟩) 1 1] 22)
    rw [World.size_alloc, World.size_alloc] at h
    exact h
  generalize (((w3.alloc (.cells #[.map (some (w1.heap.size + 1))] 95)).alloc (.cells #[.int .i64 tx, .int .i64 ty, .int .i64 tz] 24)).alloc (.cells #[.slice (some ⟨w3.heap.size + 1, 0, none⟩) 1 1] 22)) = W5 at hO5 hX5 hM5 hL5 ⊢
  have hLx : w.heap.size + 2 ≤ w3.heap.size + 1 + 1 := by omega
  generalize w3.heap.size + 1 + 1 = Lx at hL5 hLx ⊢
  have st0 : StpS w w1.heap.size w3.heap.size Lx W5.heap.size b (w1.heap.size + 1) l (tx, ty, tz) (fx, fy, fz) 0 0 True (putSt (tx, ty, tz) 0 fun _ => none) (.slice (some ⟨w3.heap.size + 1, 0, none⟩) 1 1) [(tx, ty, tz)] [] (W5.alloc (.cells #[.int .i64 0] 3)) := by
    refine ⟨Boxed.alloc (show Boxed W5 _ _ _ from (hX5.block _ (by omega)).trans hA3) _, ((hset.below hY3 hbl).below hX5 (by omega)).alloc _, hM5.alloc _, (hM3.keep (hX5.block _ (by omega))).keep ((below_alloc W5 _).block _ (by have := hX5.size; omega)), hL5.alloc _, hO5.alloc _, ?_, Boxed.new _ _ _, by simp, fun d hd => by rw [List.mem_singleton.1 hd]; exact hto, fun c => ?_, fun c n h => ?_, fun _ => BfsI.start hto (putSt_here _ _ _) (fun c hc => putSt_other hc _ _), hLx, by omega, by omega, Defs.nil _ _, ?_⟩
    · exact ((below_alloc W5 _).block _ (by have := hX5.size; omega)).trans ((hX5.block _ (by omega)).trans ((hY3.block _ (by omega)).trans hCf1))
    · rw [List.mem_singleton]
      unfold putSt
      by_cases hc : c = (tx, ty, tz) <;> simp [hc]
    · unfold putSt at h
      by_cases hc : c = (tx, ty, tz)
      · rw [if_pos hc] at h
        obtain rfl := Option.some.inj h
        simp
      · rw [if_neg hc] at h
        cases h
    · exact ((hX1.trans (hY3.mono hX1.size)).trans (hX5.mono (by omega))).trans ((below_alloc W5 _).mono (by have := hX5.size; omega))
  have hbml : w1.heap.size + 1 < W5.heap.size := by have := hX5.size; omega
  have hIb : w.heap.size ≤ W5.heap.size := by omega
  have hbs : b < W5.heap.size := by omega
  clear d0 d1 d2 e0 e1 e2 hO5 hX5 hM5 hL5 hCt4 hY4 hCt3 hA3 hY3 hM3 hrun hmk hCf1 hCt1 hX1 hset c0 c1 c2 hbl hbw hs0 hs3
  refine wpIn_label ?_
  gi_wp2
  generalize W5.heap.size = Ib at st0 hbml hIb hbs ⊢
  generalize W5.alloc (.cells #[.int .i64 0] 3) = W6 at st0 ⊢
  generalize w1.heap.size + 1 = bm at st0 hbml ⊢
  generalize w1.heap.size = Ab at st0 ⊢
  generalize w3.heap.size = Mb at st0 ⊢
  refine wpIn_loop (fun a W => ∃ (i Ib : Nat) (st : Cel → Option Nat) (v : Value) (q : List Cel) (Ds : List Nat) (u0 u1 u2 u3 u4 u11 u12 u13 u14 u15 u16 u17 u18 u19 u20 u21 u22 u23 u24 u25 u26 u27 u28 u29 u30 u31 u32 u33 u34 u35 u36 u37 u38 u39 u40 u41 u42 u43 u44 u45 u46 u47 u48 u49 u50 u51 u52 u53 u54 u55 u56 u57 u58 u59 u60 u61 u62 u63 : Value), i ≤ q.length ∧ a = { tmps := #[u0, u1, u2, u3, u4, .pointer (some ⟨w.heap.size + 1, 0, none⟩), .map none, .pointer (some ⟨Ab, 0, none⟩), .pointer (some ⟨Mb, 0, none⟩), .pointer (some ⟨Lx, 0, none⟩), .pointer (some ⟨Ib, 0, none⟩), u11, u12, u13, u14, u15, u16, u17, u18, u19, u20, u21, u22, u23, u24, u25, u26, u27, u28, u29, u30, u31, u32, u33, u34, u35, u36, u37, u38, u39, u40, u41, u42, u43, u44, u45, u46, u47, u48, u49, u50, u51, u52, u53, u54, u55, u56, u57, u58, u59, u60, u61, u62, u63], defers := Ds.map coll } ∧ StpS w Ab Mb Lx Ib b bm l (tx, ty, tz) (fx, fy, fz) i 0 True st v q Ds W ∧ w.heap.size ≤ Ib) (fun a W => l.length - idxOf a W 10) ?start ?round
  case start => exact ⟨0, Ib, _, _, _, [], _, _, _, _, _, _, _, _, _, _, _, _, _, _, _, _, _, _, _, _, _, _, _, _, _, _, _, _, _, _, _, _, _, _, _, _, _, _, _, _, _, _, _, _, _, _, _, _, _, _, _, _, _, _, _, _, _, _, Nat.zero_le _, rfl, st0, hIb⟩
  case round =>
    clear st0 hbml hIb hbs
    rintro a W ⟨i, Ib, st, v, q, Ds, u0, u1, u2, u3, u4, u11, u12, u13, u14, u15, u16, u17, u18, u19, u20, u21, u22, u23, u24, u25, u26, u27, u28, u29, u30, u31, u32, u33, u34, u35, u36, u37, u38, u39, u40, u41, u42, u43, u44, u45, u46, u47, u48, u49, u50, u51, u52, u53, u54, u55, u56, u57, u58, u59, u60, u61, u62, u63, hi, rfl, st1, hIb⟩
    have hro : Fence.wide.round = none := rfl
    have h1 : 1 ≤ 3 := by omega
    have hql := nodup_len st1.qn st1.qs
    have hform := st1.own.sl.form
    obtain ⟨Aq, cq, rfl⟩ := hform
    have cI := st1.idx.cell
    have cM := st1.met.cell
    rcases Nat.lt_or_eq_of_le hi with hlt | rfl
    · have hi0 : (0 : Int) ≤ i := by omega
      have hi1 : (i : Int) < q.length := by omega
      have wi := wrapS (n := (i : Int) + 1) (by omega)
      obtain ⟨be, oe, x, y, z, rfl, -, hbe, hce, r0, r1, r2⟩ := st1.own.sl.cells hlt
      have hnk : Near (x, y, z) 2000 := hnear _ (st1.qs _ (List.mem_of_getElem? hce))
      have qN := neighbours_ok (x, y, z) W
      have hszW : w.heap.size ≤ W.heap.size := st1.below.size
      unfold cellV at qN
      dsimp only at qN
      gi_wp2
      refine ⟨trivial, (callsIn_wide.2 qN).mono ?_⟩
      rintro e W3 ⟨rfl, hW3⟩
      have hN3 : W3.heap[W.heap.size]? = some (.cells (boxC (x, y, z)) 24 (0, 0)) := by rw [hW3]; exact World.alloc_heap_new W _
      have hX3 : Below W.heap.size W W3 := by rw [hW3]; exact (Below.refl _ _).alloc (Nat.le_refl _) _
      have hs3 : W3.heap.size = W.heap.size + 1 := by rw [hW3]; simp
      have st3 := st1.keep hX3
      have hnotB : (Value.slice (some ⟨be, oe, none⟩) q.length cq).ownBlock ≠ some W.heap.size := fun e => by
        have := (st1.own.lt _ e).2
        omega
      have hbmW : bm < W.heap.size := st1.stp.lt
      have hbW : b < W.heap.size := st1.set.lt
      have hLxW : Lx < W.heap.size := st1.met.lt
      have hIbW : Ib < W.heap.size := st1.idx.lt
      have hMbW : Mb < W.heap.size := st1.mb.lt
      have HCW := Lib.hid cI
      clear qN hW3 hX3 st1 r0 r1 r2 cI cM
      gi_wp2
      have hBn : W.heap.size < W3.heap.size := by omega
      clear hs3
      refine wpIn_rangeFunc_ownH hro h1 (gf := 114) (lb := #[.pointer (some ⟨W.heap.size, 0, none⟩)]) rfl trivial enters_nb
        (neighbours_stopsK Fence.wide 2 trivial rfl (by omega) W.heap.size (x, y, z) hnk (fun X Y => Y.heap[W.heap.size]? = X.heap[W.heap.size]?) (fun _ _ h => h) W3 hBn hN3) (fun h1 h2 => h2.trans h1) (fun X ll _ _ hll _ _ _ => putObj_other X ll _ _ (by omega)) (Below.refl _ _) (fun _ => rfl)
        (fun pre Wr => (∃ v' q' st', StpS w Ab Mb Lx Ib b bm l (tx, ty, tz) (fx, fy, fz) i pre.length (pre <+: nearL (x, y, z)) st' v' q' Ds Wr ∧ v'.ownBlock ≠ some W.heap.size ∧ q'[i]? = some (x, y, z)) ∧ W3.heap.size ≤ Wr.heap.size)
        (fun c pre Wr => ∃ W', (W3.heap.size ≤ W'.heap.size ∧ c = .exit 0 ∧ ∃ st', (pre <+: nearL (x, y, z) → StepsOut l (tx, ty, tz) (fx, fy, fz) st') ∧ Boxed W' Mb 95 (.map (some bm)) ∧ Steps W' bm st' ∧ Defs W' (bm + 1) Ds ∧ Below w.heap.size w W') ∧ Frame3 W3.heap.size W' Wr)
        (fun pre X Y row hs hg hr => by
          obtain ⟨⟨v', q', st', m1, m2, m4⟩, m3⟩ := hs
          exact ⟨⟨v', q', st', m1.turn W3.heap.size hg hr (by omega) (by omega) (fun _ hD => st3.defs.lt hD) (by omega), m2, m4⟩, Nat.le_trans m3 hg.size⟩)
        (fun c => frame_own (fun _ _ h => h.1))
        ⟨⟨_, q, st, { st3 with bfs := fun _ => st3.bfs trivial }, hnotB, hce⟩, Nat.le_refl _⟩
        (fun d a' Wr => ∃ Bx, W3.heap.size ≤ Bx ∧ Boxed3 Wr Bx d ∧ a' = { tmps := #[u0, u1, u2, u3, u4, .pointer (some ⟨w.heap.size + 1, 0, none⟩), .map none, .pointer (some ⟨Ab, 0, none⟩), .pointer (some ⟨Mb, 0, none⟩), .pointer (some ⟨Lx, 0, none⟩), .pointer (some ⟨Ib, 0, none⟩), .pointer (some ⟨Bx, 0, none⟩), u12, u13, u14, u15, u16, u17, u18, u19, u20, .int .i64 i, .slice (some ⟨be, oe, none⟩) q.length cq, .int .i64 q.length, .bool true, u25, u26, .slice (some ⟨be, oe, none⟩) q.length cq, .int .i64 i, .pointer (some ⟨be, oe + i * 3, none⟩), cellV (x, y, z), .func (.func 114) #[] #[.pointer (some ⟨W.heap.size, 0, none⟩)], cellV d, u33, u34, u35, u36, u37, u38, u39, u40, u41, u42, u43, u44, u45, u46, u47, u48, u49, u50, u51, u52, u53, u54, u55, u56, u57, u58, u59, u60, u61, u62, u63], defers := [] })
        (fun d a' _ X Y row hs hg hr => by obtain ⟨Bx, g1, g2, g3⟩ := hs; exact ⟨Bx, g1, Boxed3.own Bx (fun (_ : Unit) => d) () X Y row g2 hg (fun r e => (hr r e).2), g3⟩)
        ?assign ?body ?done ?stop
      case assign =>
        rintro ll pre ⟨dx, dy, dz⟩ Wr K ⟨⟨v', q', st', m1, m2, m4⟩, m3⟩ hK
        unfold cellV at hK ⊢
        dsimp only at hK ⊢
        gi_wp2
        exact hK _ _ ((KeepsOthers.alloc _ _).from _) ((below_alloc Wr _).block _ (by omega)) ⟨⟨v', q', st', m1.keep (below_alloc Wr _), m2, m4⟩, Nat.le_trans m3 (by simp)⟩ ⟨Wr.heap.size, m3, World.alloc_heap_new Wr _, rfl⟩
      case body =>
        rintro ll pre ⟨dx, dy, dz⟩ a' Wr hl' ⟨r, hr⟩ ⟨⟨v', q', st', m1, m2, m4⟩, m3⟩ ⟨Bx, hBx, bx, rfl⟩ hlt2
        have cA := m1.all.cell
        have cMb := m1.mb.cell
        have cI := m1.idx.cell
        obtain ⟨c0, c1, c2⟩ := bx.cell
        dsimp only at c0 c1 c2
        have hStp := m1.stp
        have hSet := m1.set
        have hq4 : q'.length ≤ 4096 := Nat.le_trans (nodup_len m1.qn m1.qs) hn
        clear hr hnk hce
        cases hst : st' (dx, dy, dz) with
        | some n =>
          have lk := look_some hStp hst true
          unfold cellV at lk
          dsimp only at lk
          have HST := Lib.hid hst
          clear hst
          gi_wp2
          refine ⟨KeepsFrom.refl _ _, rfl, ⟨v', q', ⟨st', { m1 with bfs := fun hg => ?_ }⟩, m2, m4⟩, m3⟩
          rw [List.length_append]
          exact (m1.bfs (pre_of hg)).skip m4 (prefix_at hg) (fun _ => ⟨n, HST.out⟩)
        | none =>
          have lk := look_none hStp hst true
          unfold cellV at lk
          dsimp only at lk
          have HST := Lib.hid hst
          by_cases hd : (dx, dy, dz) ∈ l
          · have lk2 := look_set hSet (dx, dy, dz) true (decide_eq_true (mem_setL.2 hd))
            unfold cellV at lk2
            dsimp only at lk2
            have HD := Lib.hid hd
            clear hd hst
            have hform := m1.own.sl.form
            obtain ⟨Aq', cq', rfl⟩ := hform
            have hil : i < q'.length := (List.getElem?_eq_some_iff.1 m4).1
            have hil1 : (i : Int) < q'.length := by omega
            obtain ⟨m, hm⟩ := (m1.know _).1 (List.mem_of_getElem? m4)
            have hmq := m1.bd _ _ hm
            have wm := wrapS (n := (m : Int) + 1) (by omega)
            obtain ⟨bq, oq, x', y', z', rfl, -, hbq, he, f0, f1, f2⟩ := m1.own.sl.cells hil
            obtain ⟨rfl, rfl, rfl⟩ : x' = x ∧ y' = y ∧ z' = z := by
              have h := Option.some.inj (he.symm.trans m4)
              injection h with h1 h2
              injection h2 with h2 h3
              exact ⟨h1, h2, h3⟩
            have hStpD : Steps Wr.drew bm st' := hStp.keep rfl
            have lk3 : (Instr.lookup 95 (.map (some bm)) (.agg #[.int .i64 x', .int .i64 y', .int .i64 z']) false).run Tryz.prog Wr.drew = .ok (.int .i64 (m : Int)) Wr.drew := look_some hStpD hm false
            have cMe := m1.met.cell
            have hfr := m1.frm.cell
            have HM := Lib.hid (And.intro hm hmq)
            have HF := Lib.hid he
            clear hm hmq he
            gi_wp2
            refine gi_region_still_tail 9 (by kernel_rfl) (by kernel_rfl) (by kernel_rfl) ?_
            simp only [List.take_succ_cons, List.take_zero, List.drop_succ_cons, List.drop_zero]
            change wpStill _ _ (World.drew Wr) _ _ _
            repeat still_step
            try refine wpStill_nil ?_
            change wpList _ _ _ _ _ (World.drew Wr)
            refine wpList_update_steps rfl _ _ _ rfl bm st' rfl hStpD (dx, dy, dz) rfl (m + 1) rfl ?_
            intro w4 hst4 hg4
            refine tail_end ?_
            have hk4 : Keep1 Wr.heap.size bm Wr w4 := (Keep1.of_below (Below.refl _ Wr).drew).trans (Keep1.of_grown hg4 (Nat.le_refl _) fun k e => by cases e; exact .inl rfl)
            have hA4 : Boxed w4 Ab 157 (.map (some b)) := Keep1.atM hStp hk4 m1.all (fun _ _ e => by cases e)
            have hMb4 : Boxed w4 Mb 95 (.map (some bm)) := Keep1.atM hStp hk4 m1.mb (fun _ _ e => by cases e)
            have hMe4 : Boxed w4 Lx 22 (.slice (some ⟨bq, oq, none⟩) q'.length cq') := Keep1.atM hStp hk4 m1.met (fun _ _ e => by cases e)
            have hI4 : Boxed w4 Ib 3 (.int .i64 (i : Int)) := Keep1.atM hStp hk4 m1.idx (fun _ _ e => by cases e)
            have hF4 : Boxed3 w4 (w.heap.size + 1) (fx, fy, fz) := Keep1.atM hStp hk4 m1.frm (fun _ _ e => by cases e)
            have hX4 : Boxed3 w4 Bx (dx, dy, dz) := Keep1.atM hStp hk4 bx (fun _ _ e => by cases e)
            have hown4 : Own w4 (w.heap.size + 2) (.slice (some ⟨bq, oq, none⟩) q'.length cq') q' := ⟨m1.own.1, m1.own.2.imp id fun ⟨g, cap, cur, h1, h2, hg, r⟩ => ⟨g, cap, cur, h1, h2, Keep1.atM hStp hk4 hg (fun _ _ e => by cases e), r⟩⟩
            have hset4 : CSet w4 b (setL l) := CMap.keep m1.set (hk4.block _ m1.set.lt m1.hbb)
            have hdef4 : Defs w4 (bm + 1) Ds := ⟨m1.defs.1, fun D hD => ⟨(m1.defs.2 D hD).1, Keep1.atM hStp hk4 (m1.defs.2 D hD).2 (fun _ _ e => by cases e)⟩⟩
            have hB4 : Below w.heap.size w w4 := m1.below.trans ⟨hk4.os, hk4.tape, hk4.output, hk4.size, fun k hk => hk4.block k (by have := m1.below.size; omega) (by have := m1.hbm; omega)⟩
            have hs4 : Wr.heap.size ≤ w4.heap.size := hk4.size
            have hsz2 : w.heap.size + 2 ≤ w4.heap.size := by have := (Array.getElem?_eq_some_iff.1 hF4).1; omega
            have hkW : w4.heap[W.heap.size]? = Wr.heap[W.heap.size]? := hk4.block _ (by omega) (by omega)
            have hkf : KeepsFrom W3.heap.size Wr w4 := hk4.from_ (by omega)
            obtain ⟨g0, g1, g2⟩ := hF4.cell
            obtain ⟨x0, x1, x2⟩ := hX4.cell
            dsimp only at g0 g1 g2 x0 x1 x2
            have cMe4 := hMe4.cell
            by_cases hdf : (dx, dy, dz) = (fx, fy, fz)
            · have heq := fun V => eqCell dx dy dz fx fy fz V
              have hbq2 : (dx == fx && (dy == fy && dz == fz)) = true := by simpa using hdf
              rw [hbq2] at heq
              have HDF := Lib.hid hdf
              clear hbq2 hdf
              gi_wp2
              refine ⟨hkf, w4, ⟨Nat.le_trans m3 hs4, rfl, putSt (dx, dy, dz) (m + 1) st', fun hg => ?_, hMb4, hst4, hdef4, hB4⟩, Frame3.refl _ _⟩
              have hp := (m1.bfs (pre_of hg)).push HF.out HM.out.1 (prefix_at hg) HD.out HST.out (putSt_here _ _ _) (fun e he => putSt_other he _ _)
              have hne : (x', y', z') ≠ (dx, dy, dz) := fun e => by
                have h := HM.out.1
                rw [e, HST.out] at h
                cases h
              rw [← HDF.out]
              exact stepsOut_stop hp (by rw [List.getElem?_append_left hil]; exact HF.out) (by rw [putSt_other hne]; exact HM.out.1) (putSt_here _ _ _)
            · have heq := fun V => eqCell dx dy dz fx fy fz V
              have hbq2 : (dx == fx && (dy == fy && dz == fz)) = false := by
                simp only [Bool.and_eq_false_iff, beq_eq_false_iff_ne, ne_eq]
                simp only [Prod.mk.injEq] at hdf
                omega
              rw [hbq2] at heq
              clear hbq2 hdf
              gi_wp2_with (gi_at_builtin; (refine wpListIn_append_one rfl _ _ rfl (w.heap.size + 2) hsz2 (.slice (some ⟨bq, oq, none⟩) q'.length cq') q' rfl hown4 (dx, dy, dz) rfl (by omega) ?_; intro v9 w5 hown' hgrow hat hform; obtain ⟨g', cap', rfl⟩ := hform; obtain ⟨hv1, hv2, hr2, hk2, hb2⟩ := Boxed.appended hMe4 (by decide) hown4 hsz2 m1.hLx hown' hgrow; have cv1 := hv1.cell; have fv1 := hv1.frozen))
              have tA := (Boxed.kept (Boxed.alloc hA4 (.cells #[.int .i64 dx, .int .i64 dy, .int .i64 dz] 24)) hgrow (Boxed.not_row hA4 (by decide) hown4)).other (Boxed.ne hA4 hMe4 (by decide)) (.slice (some ⟨g', 0, none⟩) (q'.length + 1) cap')
              have tM := (Boxed.kept (Boxed.alloc hMb4 (.cells #[.int .i64 dx, .int .i64 dy, .int .i64 dz] 24)) hgrow (Boxed.not_row hMb4 (by decide) hown4)).other (Boxed.ne hMb4 hMe4 (by decide)) (.slice (some ⟨g', 0, none⟩) (q'.length + 1) cap')
              have tI := (Boxed.kept (Boxed.alloc hI4 (.cells #[.int .i64 dx, .int .i64 dy, .int .i64 dz] 24)) hgrow (Boxed.not_row hI4 (by decide) hown4)).other (Boxed.ne hI4 hMe4 (by decide)) (.slice (some ⟨g', 0, none⟩) (q'.length + 1) cap')
              have tF : Boxed3 (w5.setCell ⟨Lx, 0, none⟩ (.slice (some ⟨g', 0, none⟩) (q'.length + 1) cap')) (w.heap.size + 1) (fx, fy, fz) := (hb2.block _ (by omega)).trans hF4
              have tS : Steps (w5.setCell ⟨Lx, 0, none⟩ (.slice (some ⟨g', 0, none⟩) (q'.length + 1) cap')) bm (putSt (dx, dy, dz) (m + 1) st') := by
                obtain ⟨tl, ⟨es, clock, q1, q2⟩, q3⟩ := hst4
                exact ⟨tl, ⟨es, clock, hk2.same _ _ q1 rfl, q2⟩, q3⟩
              have tC : CSet (w5.setCell ⟨Lx, 0, none⟩ (.slice (some ⟨g', 0, none⟩) (q'.length + 1) cap')) b (setL l) := by
                obtain ⟨es, clock, q1, q2⟩ := hset4
                exact ⟨es, clock, hk2.same _ _ q1 rfl, q2⟩
              have e6 := (heap_setCell_other w5 ⟨Lx, 0, none⟩ W.heap.size (.slice (some ⟨g', 0, none⟩) (q'.length + 1) cap') (by dsimp only; omega)).trans (((hgrow.block _ (by simp; omega) (fun e => m2 e.symm)).trans ((below_alloc w4 _).block _ (by omega))).trans hkW)
              refine ⟨hkf.trans (hk2.from _), e6, ⟨.slice (some ⟨g', 0, none⟩) (q'.length + 1) cap', q' ++ [(dx, dy, dz)], ⟨putSt (dx, dy, dz) (m + 1) st', ⟨tA, tC, tM, tS, hv2, hr2, tF, tI, nodup_snoc m1.qn (fun h => ?_), (fun d hd => (List.mem_append.1 hd).elim (m1.qs d) (fun h => by rw [List.mem_singleton.1 h]; exact HD.out)), fun c => ?_, fun c n h => ?_, fun hg => ?_, m1.hLx, m1.hbm, m1.hbb, ⟨m1.defs.1, fun D hD => ⟨(hdef4.2 D hD).1, hk2.same _ _ (hdef4.2 D hD).2 rfl⟩⟩, hB4.trans (hb2.mono (by omega))⟩⟩, fun e => ?_, ?_⟩, Nat.le_trans m3 (Nat.le_trans hs4 hb2.size)⟩
              · obtain ⟨n, hn2⟩ := (m1.know _).1 h
                rw [HST.out] at hn2
                cases hn2
              · rw [List.mem_append, List.mem_singleton, m1.know]
                unfold putSt
                by_cases hcd : c = (dx, dy, dz)
                · simp [hcd]
                · simp [hcd]
              · rw [List.length_append]
                unfold putSt at h
                by_cases hcd : c = (dx, dy, dz)
                · rw [if_pos hcd] at h
                  obtain rfl := Option.some.inj h
                  have := HM.out.2
                  simp
                  exact this
                · rw [if_neg hcd] at h
                  have := m1.bd c n h
                  omega
              · rw [List.length_append]
                exact (m1.bfs (pre_of hg)).push HF.out HM.out.1 (prefix_at hg) HD.out HST.out (putSt_here _ _ _) (fun e he => putSt_other he _ _)
              · rcases hat with h | h
                · rw [h] at e
                  exact m2 e
                · rw [h] at e
                  injection e with e
                  omega
              · rw [List.getElem?_append_left hil]
                exact HF.out
          · have lk2 := look_set hSet (dx, dy, dz) false (decide_eq_false fun h => hd (mem_setL.1 h))
            unfold cellV at lk2
            dsimp only at lk2
            have HD := Lib.hid hd
            clear hd hst
            gi_wp2
            refine ⟨KeepsFrom.refl _ _, rfl, ⟨v', q', ⟨st', { m1 with bfs := fun hg => ?_ }⟩, m2, m4⟩, m3⟩
            rw [List.length_append]
            exact (m1.bfs (pre_of hg)).skip m4 (prefix_at hg) (fun h => absurd h HD.out)
      case done =>
        rintro D ys Wr hD rfl ⟨⟨v', q', st', m1, m2, m4⟩, m3⟩ hK
        have cI := m1.idx.cell
        have hil : i + 1 ≤ q'.length := (List.getElem?_eq_some_iff.1 m4).1
        have hql' := nodup_len m1.qn m1.qs
        have hX5 : Below Wr.heap.size Wr (Wr.alloc (.cells #[.int .i64 ((i : Int) + 1)] 3)) := below_alloc _ _
        have mk := m1.keep hX5
        have st4 : StpS w Ab Mb Lx Wr.heap.size b bm l (tx, ty, tz) (fx, fy, fz) (i + 1) 0 True st' v' q' (D :: Ds) (Wr.alloc (.cells #[.int .i64 ((i : Int) + 1)] 3)) := by
          refine ⟨mk.all, mk.set, mk.mb, mk.stp, mk.met, mk.own, mk.frm, Boxed.new _ _ _, mk.qn, mk.qs, mk.know, mk.bd, fun _ => BfsI.next m4 (m1.bfs ⟨[], by simp⟩), mk.hLx, mk.hbm, mk.hbb, ⟨List.nodup_cons.2 ⟨fun h => ?_, m1.defs.1⟩, fun F hF => ?_⟩, mk.below⟩
          · have := st3.defs.lt h
            omega
          · rcases List.mem_cons.1 hF with rfl | hF
            · exact ⟨by omega, (hX5.block _ (Array.getElem?_eq_some_iff.1 hK).1).trans hK⟩
            · exact mk.defs.2 F hF
        have hIb' : w.heap.size ≤ Wr.heap.size := m1.below.size
        have HID := Lib.hid (st4.idx.cell)
        have HIL := Lib.hid (And.intro hil hql')
        clear hce hnk m1 m4 mk
        gi_wp2
        refine ⟨⟨i + 1, Wr.heap.size, st', v', q', D :: Ds, _, _, _, _, _, _, _, _, _, _, _, _, _, _, _, _, _, _, _, _, _, _, _, _, _, _, _, _, _, _, _, _, _, _, _, _, _, _, _, _, _, _, _, _, _, _, _, _, _, _, _, _, _, _, _, _, _, _, HIL.out.1, rfl, st4, hIb'⟩, ?_⟩
        have e1 := HID.out
        have e2 := HCW.out
        have e3 := HIL.out.1
        have e4 := HIL.out.2
        rw [idxOf_is rfl e1, idxOf_is rfl e2]
        omega
      case stop =>
        rintro D c pre Wr hD hpre ⟨W', ⟨hsz', rfl, st', ho, hMb, hSt, hDf, hBl⟩, hF⟩ hK
        have hMb2 : Boxed Wr Mb 95 (.map (some bm)) := hF.cells _ _ hMb rfl
        have cMb := hMb2.cell
        have hSt2 : Steps Wr bm st' := hSt.keep (hF.below _ (by omega))
        have hDf2 : Defs Wr (bm + 1) (D :: Ds) := by
          refine ⟨List.nodup_cons.2 ⟨fun h => ?_, hDf.1⟩, fun E hE => ?_⟩
          · have := st3.defs.lt h
            omega
          · rcases List.mem_cons.1 hE with rfl | hE
            · exact ⟨by omega, hK⟩
            · exact ⟨(hDf.2 E hE).1, (hF.below E (st3.defs.lt hE)).trans (hDf.2 E hE).2⟩
        have hBl2 : Below w.heap.size w Wr := hBl.trans ⟨hF.os, hF.tape, hF.output, hF.size, fun k hk => hF.below k (by omega)⟩
        have HO := Lib.hid (ho hpre)
        have hbm0 : w.heap.size ≤ bm := st3.hbm
        clear hce hnk
        gi_wp2
        refine leaves_all (B := bm + 1) (D :: Ds) _ hDf2 fun W2 hW2 => ?_
        exact ⟨_, results_tmp rfl _ _ _, bm, st', rfl, hSt2.keep (hW2.below _ (by omega)), HO.out, hBl2.trans ⟨hW2.os, hW2.tape, hW2.output, Nat.le_of_eq hW2.size.symm, fun k hk => hW2.below k (by omega)⟩⟩
    · have cMb := st1.mb.cell
      have hSt := st1.stp
      have HO := Lib.hid (stepsOut_end (fr := (fx, fy, fz)) (st1.bfs trivial) (Nat.le_refl _))
      have hDf := st1.defs
      have hBl := st1.below
      have hbm0 : w.heap.size ≤ bm := st1.hbm
      clear st1
      gi_wp2
      refine leaves_all (B := bm + 1) Ds _ hDf fun W2 hW2 => ?_
      exact ⟨_, results_tmp rfl _ _ _, bm, st, rfl, hSt.keep (hW2.below _ (by omega)), HO.out, hBl.trans ⟨hW2.os, hW2.tape, hW2.output, Nat.le_of_eq hW2.size.symm, fun k hk => hW2.below k (by omega)⟩⟩
end Go.Proofs
