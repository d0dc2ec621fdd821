import Derived.Test.YtpickbchpnbffaaGreatRowX
import Derived.Stop.RegionWithIn
/- bite.States. -/
namespace Go.Proofs
open Go.RowKit Go.Shelf
set_option maxHeartbeats 16000000
set_option maxRecDepth 1000000
attribute [local go_sem] Oper.semAt_some
attribute [local go_sem] fence_wide_fnB
theorem wpListIn_make_fullB {F : Fence} {nF : Nat} {P : Program} (w : World) {ops : Array Oper} {rest : List Oper} {o : Oper} {a : Act} {Q : Exit → Act → World → Prop}
    (hg : o.guard = none) (l c : Operand) (t : TypeId) (hop : o.op = Op.makeSlice t l c)
    (base : Nat) (e : TypeId) (i : TypeInfo) (z : Value) (size : Nat) (h1 : P.underlying t = some (.slice e)) (h2 : P.info? e = some i) (h3 : i.zero = some z) (h4 : i.size = size)
    (kl kc : IntKind) (L C : Int) (n : Nat) (hl : a.eval l = .int kl L) (hc : a.eval c = .int kc C) (hL : L = (n : Int)) (hC : C = (n : Int)) (b2 : i.bytes * n ≤ 281474976710656) (b3 : n ≤ maxLen) (b4 : base ≤ w.heap.size)
    (hK : ∀ w', w'.ownsRow base e size (.slice (some ⟨w.heap.size, 0, none⟩) n n) n (madeCells z.cells (n * size)).toList → w.grownBy w' none → wpListIn F nF P ops Q rest (a.put o.dst (.slice (some ⟨w.heap.size, 0, none⟩) n n)) w') :
    wpListIn F nF P ops Q (o :: rest) a w := by
  refine wpListIn_plain hg fun K hK' => ?_
  obtain ⟨w', hrun, r1, r2⟩ := run_make_full (P := P) w base t e i z size h1 h2 h3 h4 kl kc n b2 b3 b4
  subst hL
  subst hC
  unfold Oper.wpIn
  refine ⟨?_, ?_⟩
  · simp [Oper.about, hop]
  · rw [Oper.semAt_plain F _ _ (by rw [hop]; intro c hc'; cases hc')]
    simp [execOp, hop, hl, hc, hrun, Result.andThen]
    exact hK' _ _ (hK w' r1 r2)
/-- The states that some meetings tell, each at its place. -/
def fillB (u l p : List Cel) (pre : List (MeetX u l p)) (Z : List Int) : List Int := pre.foldl (fun L x => L.set x.k (stateB u l (p[x.k]'x.hk))) Z
theorem fillB_len {u l p : List Cel} : ∀ (pre : List (MeetX u l p)) (Z : List Int), (fillB u l p pre Z).length = Z.length
  | [], _ => rfl
  | x :: pre, Z => by
    show (fillB u l p pre _).length = _
    rw [fillB_len pre, List.length_set]
theorem fillB_snoc {u l p : List Cel} (pre : List (MeetX u l p)) (x : MeetX u l p) (Z : List Int) : fillB u l p (pre ++ [x]) Z = (fillB u l p pre Z).set x.k (stateB u l (p[x.k]'x.hk)) := by
  unfold fillB
  rw [List.foldl_append]
  rfl
theorem fillB_get {u l p : List Cel} : ∀ (pre : List (MeetX u l p)) (Z : List Int) (i : Nat) (hi : i < p.length), Z.length = p.length → (i ∈ pre.map (·.k) ∨ Z[i]? = some (stateB u l (p[i]'hi))) → (fillB u l p pre Z)[i]? = some (stateB u l (p[i]'hi))
  | [], Z, i, hi, _, h => by
    rcases h with h | h
    · simp at h
    · exact h
  | x :: pre, Z, i, hi, hz, h => by
    refine fillB_get pre (Z.set x.k (stateB u l (p[x.k]'x.hk))) i hi (by rw [List.length_set]; exact hz) ?_
    by_cases e : x.k = i
    · right
      subst e
      rw [List.getElem?_set_self (by rw [hz]; exact hi)]
    · rcases h with h | h
      · rw [List.map_cons, List.mem_cons] at h
        rcases h with h | h
        · exact absurd h.symm e
        · exact .inl h
      · right
        rw [List.getElem?_set_ne e]
        exact h
theorem fillB_all {u l p : List Cel} {pre : List (MeetX u l p)} {Z : List Int} (hz : Z.length = p.length) (h : pre.map (·.k) = List.range p.length) : fillB u l p pre Z = p.map (stateB u l) := by
  refine List.ext_getElem? fun i => ?_
  by_cases hi : i < p.length
  · rw [fillB_get pre Z i hi hz (.inl (by rw [h]; exact List.mem_range.2 hi)), List.getElem?_map, List.getElem?_eq_getElem hi]
    rfl
  · rw [List.getElem?_eq_none (by rw [fillB_len, hz]; omega), List.getElem?_eq_none (by rw [List.length_map]; omega)]
theorem enters_meet : ∀ args w, (callFunc 68 args).run Tryz.prog w = .ok (.enter 68 args) w := enters_of Tryz.func68 (by kernel_rfl) rfl
theorem bitStates_ok (u l p : List Cel) (vu vl vp : Value) (w : World) (h : BitS w vu vl vp u l p) (ok : BiteOk u l p) :
    Calls Tryz.prog 7 #[bitV vu vl vp] w fun e w' => ∃ B, e = .returned (.tuple #[.slice (some ⟨B, 0, none⟩) p.length p.length, .int .i64 0]) ∧ w.heap.size ≤ B ∧ RowX w' 3 B (p.map (stateB u l)) ∧ Below w.heap.size w w' := by
  have hlp := ok.path.len
  obtain ⟨j0, hj, hy0, hy1, hy2⟩ := info_parts (P := Tryz.prog) (e := 3) (z := .int .i64 0) (size := 1) (bytes := 8) (by kernel_rfl)
  obtain ⟨U, uc, rfl⟩ := h.su.form
  obtain ⟨A, ac, rfl⟩ := h.sl.form
  obtain ⟨P, pc, rfl⟩ := h.sp.form
  obtain ⟨W0, hW⟩ : ∃ W0, W0 = w.alloc (.cells #[.slice U u.length uc, .slice A l.length ac, .slice P p.length pc] 31) := ⟨_, rfl⟩
  have hB0 : Below w.heap.size w W0 := by subst hW; exact (Below.refl _ _).alloc (Nat.le_refl _) _
  have hrow : W0.heap[w.heap.size]? = some (.cells #[.slice U u.length uc, .slice A l.length ac, .slice P p.length pc] 31 (0, 0)) := by subst hW; exact heap_alloc_new w _
  have hlt : w.heap.size < W0.heap.size := (Array.getElem?_eq_some_iff.1 hrow).1
  have q := bitBite_ok u l p _ _ _ W0 (h.below hB0) ok
  obtain ⟨d0, d1, d2⟩ := three_cellsB hrow
  unfold bitV at q ⊢
  refine (callsIn_wide (n := 5)).1 ?_
  refine callsIn_of_wp_marks Tryz.func7 rfl trivial ?_ rfl
  simp only [Tryz.ntmps7, List.size_toArray, List.length_cons, List.length_nil, Nat.reduceAdd, Nat.reduceSub, Array.replicate_succ, Array.replicate_zero, List.push_toArray, List.append_toArray, List.nil_append, List.cons_append]
  gi_wp2
  rw [← hW]
  clear hW d0 d1 d2
  refine (callsIn_wide.2 q).mono ?_
  rintro e w1 ⟨rfl, hB1⟩
  have hrow1 := (hB1.block _ hlt).trans hrow
  obtain ⟨d0, d1, d2⟩ := three_cellsB hrow1
  clear q hrow
  gi_wp2_with (gi_at_make; refine wpListIn_make_fullB _ rfl _ _ 27 rfl w1.heap.size 3 j0 _ 1 Tryz.underlying27 hj hy0 hy1 .i64 .i64 _ _ p.length rfl rfl rfl rfl ?c1 ?c2 ?c3 ?_)
  case c1 => rw [hy2]; omega
  case c2 => unfold maxLen; omega
  case c3 => exact Nat.le_refl _
  intro w2 hown hgrow
  have hX2 : Below w1.heap.size w1 w2 := (Below.refl _ _).grown hgrow (Nat.le_refl _) (fun k hk => by cases hk)
  have hs1 := hB1.size
  have hs2 := hX2.size
  have hbs : w1.heap.size < w2.heap.size := by
    obtain ⟨-, ⟨h1, -⟩ | ⟨g', cap, cur, h1, -, h2, -⟩⟩ := hown
    · cases h1
    · injection h1 with e1 e2 e3
      injection e1 with e1
      injection e1 with e1
      subst e1
      exact (Array.getElem?_eq_some_iff.1 h2).1
  have hRow : RowX w2 3 w1.heap.size (List.replicate p.length 0) := RowX.made (by simpa using hown)
  have hrow2 := (hX2.block _ (by omega)).trans hrow1
  obtain ⟨d0, d1, d2⟩ := three_cellsB hrow2
  have hlt2 : w.heap.size < w2.heap.size := by omega
  have hne : w.heap.size ≠ w2.heap.size := by omega
  have hXw : Below w.heap.size w w2 := hB0.trans ((hB1.trans (hX2.mono hs1)).mono hB0.size)
  clear hown hgrow hrow1
  have kM := fun W => bitMeetings_ok (.slice U u.length uc) (.slice A l.length ac) (.slice P p.length pc) W
  unfold bitV at kM
  gi_wp2
  refine (callsIn_wide.2 (kM _)).mono ?_
  rintro e w3 ⟨rfl, hw3⟩
  obtain ⟨W3, hW3⟩ : ∃ W3, W3 = w2.alloc (.cells #[.slice (some ⟨w1.heap.size, 0, none⟩) p.length p.length] 27) := ⟨_, rfl⟩
  have hb3 : Below w2.heap.size w2 W3 := by rw [hW3]; exact below_alloc _ _
  have hz3 : W3.heap.size = w2.heap.size + 1 := by rw [hW3]; simp
  have hBox3 : Boxed W3 w2.heap.size 27 (.slice (some ⟨w1.heap.size, 0, none⟩) p.length p.length) := by rw [hW3]; exact Boxed.new _ _ _
  rw [← hW3] at hw3 ⊢
  have hb4 : Below W3.heap.size W3 w3 := by rw [hw3]; exact below_alloc _ _
  have hz4 : w3.heap.size = w2.heap.size + 1 + 1 := by rw [hw3]; simp [hz3]
  have hbox4 : w3.heap[W3.heap.size]? = some (.cells #[.slice U u.length uc, .slice A l.length ac, .slice P p.length pc] 31 (0, 0)) := by rw [hw3]; exact heap_alloc_new W3 _
  have hRow3 := (hRow.below hb3).below hb4
  have hBox : Boxed w3 w2.heap.size 27 (.slice (some ⟨w1.heap.size, 0, none⟩) p.length p.length) := (hb4.block _ (by omega)).trans hBox3
  have hX3 : Below w.heap.size w w3 := hXw.trans ((hb3.trans (hb4.mono (by omega))).mono hXw.size)
  have hAt : AtB w W3.heap.size (.slice U u.length uc) (.slice A l.length ac) (.slice P p.length pc) w3 := ⟨hbox4, hX3.size, hX3.block⟩
  rw [hz3] at hAt ⊢
  clear hw3 hW3 kM d0 d1 d2 hrow2 hne hlt2 hbox4 hRow hBox3 hb3 hb4 hB1 hX2
  have hro : Fence.wide.round = none := rfl
  have h1 : 1 ≤ 5 := by omega
  gi_wp2
  obtain ⟨BB, hBB⟩ : ∃ BB, BB = w2.heap.size + 1 := ⟨_, rfl⟩
  rw [← hBB] at hAt hz4 ⊢
  have hBs : w.heap.size ≤ w1.heap.size := by omega
  have hBx : w1.heap.size < w2.heap.size := hbs
  have hBlt : BB < w3.heap.size := (Array.getElem?_eq_some_iff.1 hAt.1).1
  have hBne : BB ≠ w1.heap.size ∧ w2.heap.size ≠ w1.heap.size ∧ w2.heap.size < w3.heap.size ∧ w1.heap.size < w3.heap.size := by omega
  obtain ⟨hBn1, hBn2, hBl2, hBl1⟩ := hBne
  clear hz4 hz3 hBB
  refine wpIn_rangeFunc_ownH hro h1 (gf := 68) (lb := #[.pointer (some ⟨BB, 0, none⟩)]) rfl trivial enters_meet
    (bitMeet_stops 4 (by omega) BB w u l p _ _ _ h ok w3 hAt)
    (fun h k => ⟨fun q => k.1 (h.1 q), fun m S q => k.2 m S (h.2 m S q)⟩) (fun X ll o o' hll hX hc hw => ⟨fun q => ⟨(putObj_other X ll _ _ (by omega)).trans q.1, by simpa [World.putObj] using q.2.1, fun k hk => (putObj_other X ll _ _ (by have := hX3.size; omega)).trans (q.2.2 k hk)⟩, fun m S q => q.keep (putObj_other X ll _ _ (fun e => by
      obtain ⟨es, clock, q1, _⟩ := q
      rw [e, hX] at q1
      cases q1
      cases hw))⟩) (Below.refl _ _) (fun _ => rfl)
    (fun pre Wr => (RowX Wr 3 w1.heap.size (fillB u l p pre (List.replicate p.length 0)) ∧ Boxed Wr w2.heap.size 27 (.slice (some ⟨w1.heap.size, 0, none⟩) p.length p.length)) ∧ Below w.heap.size w Wr ∧ w3.heap.size ≤ Wr.heap.size)
    (fun _ _ _ => False)
    (fun pre X Y row hs hg hr => by
      obtain ⟨⟨g1, g2⟩, g3, g4⟩ := hs
      have hk : ∀ k, k < w3.heap.size → Y.heap[k]? = X.heap[k]? := fun k hk => hg.block k (by omega) (fun e => by have := (hr k e.symm).1; omega)
      exact ⟨⟨g1.keep (hk _ hBl1), (hk _ hBl2).trans g2⟩, ⟨hg.os.trans g3.os, hg.tape.trans g3.tape, hg.output.trans g3.output, Nat.le_trans g3.size hg.size, fun k hk' => (hk k (by omega)).trans (g3.block k hk')⟩, Nat.le_trans g4 hg.size⟩)
    (fun _ _ _ _ _ hs _ _ => hs)
    ⟨⟨hRow3, hBox⟩, hX3, Nat.le_refl _⟩
    (fun x a' Wr => ∃ Bm, w3.heap.size ≤ Bm ∧ Wr.heap[Bm]? = some (.cells #[.slice x.A1 (hitB u l (p[x.k]'x.hk)).length x.c1, .slice x.A2 (conM u l (p[x.k]'x.hk)).length x.c2] 61 (0, 0)) ∧ a' = { tmps := #[.agg #[.slice U u.length uc, .slice A l.length ac, .slice P p.length pc], .pointer (some ⟨w.heap.size, 0, none⟩), .slice none 0 0, .int .i64 0, .int .i64 0, .pointer (some ⟨w2.heap.size, 0, none⟩), .int .i64 x.k, .pointer (some ⟨Bm, 0, none⟩), .agg #[.slice U u.length uc, .slice A l.length ac, .slice P p.length pc], .int .i64 0, .int .i64 0, .bool false, undef, .pointer (some ⟨w.heap.size, 2, none⟩), .slice P p.length pc, .int .i64 p.length, .slice (some ⟨w1.heap.size, 0, none⟩) p.length p.length, .agg #[.slice U u.length uc, .slice A l.length ac, .slice P p.length pc], .func (.func 68) #[] #[.pointer (some ⟨BB, 0, none⟩)], .int .i64 x.k, x.val, undef, undef, undef, undef, undef, undef], defers := [] })
    (fun x a' _ X Y row hs hg hr => by
      obtain ⟨Bm, g1, g2, g3⟩ := hs
      exact ⟨Bm, g1, (hg.block Bm (Array.getElem?_eq_some_iff.1 g2).1 (fun e => by
        obtain ⟨_, o, ho, hc⟩ := hr Bm e.symm
        rw [g2] at ho
        cases ho
        cases hc)).trans g2, g3⟩)
    ?assign ?body ?done ?stop
  case assign =>
    rintro ll pre ⟨k, hk, A1, A2, c1, c2⟩ Wr K ⟨⟨g1, g2⟩, g3, g4⟩ hK'
    unfold MeetX.enc MeetX.val at hK' ⊢
    dsimp only at hK' ⊢
    gi_wp2
    exact hK' _ _ ((KeepsOthers.alloc _ _).from _) ⟨fun q => q.below (below_alloc Wr _), fun m S q => q.below (below_alloc Wr _) q.lt⟩ ⟨⟨g1.below (below_alloc Wr _), g2.alloc _⟩, g3.alloc g3.size _, Nat.le_trans g4 (by simp)⟩ ⟨Wr.heap.size, g4, World.alloc_heap_new Wr _, rfl⟩
  case stop =>
    rintro D c pre Wr _ _ h _
    exact h.elim
  case body =>
    rintro ll pre ⟨k, hk, A1, A2, c1, c2⟩ a' Wr hl' ⟨r, hr⟩ ⟨⟨g1, g2⟩, g3, g4⟩ ⟨Bm, hBm, bm, rfl⟩ hlt2
    have kS := fun W => bitState_ok A1 A2 (hitB u l (p[k]'hk)).length c1 (conM u l (p[k]'hk)).length c2 W
    simp only [state_len] at kS
    have hsn := fillB_snoc pre ⟨k, hk, A1, A2, c1, c2⟩ (List.replicate p.length 0)
    have hLl : (fillB u l p pre (List.replicate p.length 0)).length = p.length := by rw [fillB_len, List.length_replicate]
    dsimp only at bm hsn
    generalize fillB u l p pre (List.replicate p.length 0) = L at g1 hsn hLl
    obtain ⟨v0, hv0⟩ : ∃ v0, L[k]? = some v0 := ⟨_, List.getElem?_eq_getElem (by omega)⟩
    have HN := Lib.hid hsn
    have hXr : Below Wr.heap.size Wr Wr.drew := (Below.refl _ _).drew
    have kk : ∀ V, Below Wr.heap.size Wr V → V.cell? ⟨w2.heap.size, 0, none⟩ = some (.slice (some ⟨w1.heap.size, 0, none⟩) p.length p.length) ∧ (V.cell? ⟨Bm, 0, none⟩ = some (.slice A1 (hitB u l (p[k]'hk)).length c1) ∧ V.cell? ⟨Bm, 1, none⟩ = some (.slice A2 (conM u l (p[k]'hk)).length c2)) ∧ V.cell? ⟨w1.heap.size, k, none⟩ = some (.int .i64 v0) ∧ V.frozen? ⟨w1.heap.size, k, none⟩ = false := fun V h =>
      ⟨Boxed.cell ((h.block _ g2.lt).trans g2), (two_cellsB ((h.block _ (Array.getElem?_eq_some_iff.1 bm).1).trans bm)).1, (g1.below h).cell hv0, (g1.below h).fz k⟩
    have hi0 : (0 : Int) ≤ k := by omega
    have hi1 : (k : Int) < p.length := by omega
    have hky := kk _ hXr
    obtain ⟨f0, ⟨f1, f2⟩, f3, f4⟩ := hky
    clear hsn hr hl' h hAt hRow3 hBox
    dsimp only [MeetX.val]
    generalize stateB u l (p[k]'hk) = st at kS HN
    gi_wp2
    refine bitWay (C := fun V => ∃ V5, Below Wr.heap.size Wr V5 ∧ V = V5.setCell ⟨w1.heap.size, k, none⟩ (.int .i64 st)) (G := ?G) ?rest (fun key => ?main)
    case main =>
      gi_region_with (first
        | (gi_at_call 29; (first | refine ⟨trivial, (CallsIn.inRound ll (callsIn_wide.2 (kS _))).mono ?_⟩ | refine (CallsIn.inRound ll (callsIn_wide.2 (kS _))).mono ?_); rintro e w5 ⟨rfl, hY⟩; have hX5 := hXr.trans (hY.mono hXr.size); obtain ⟨e0, ⟨e1, e2⟩, e3, e4⟩ := kk _ hX5))
      all_goals exact key _ ⟨w5, hX5, rfl⟩
    case' rest =>
      intro V hV
    obtain ⟨V5, hX5, hVe⟩ := hV
    have g15 := g1.below hX5
    have hb5 : ∀ j, j < Wr.heap.size → j ≠ w1.heap.size → V.heap[j]? = Wr.heap[j]? := fun j hj hne => by
      rw [hVe]
      exact (Below.heap_setCell V5 ⟨w1.heap.size, k, none⟩ _ j hne).trans (hX5.block j hj)
    have hz5 : Wr.heap.size ≤ V.heap.size := by
      rw [hVe]
      simp only [World.setCell]
      have := hX5.size
      simpa using this
    have hR5 : RowX V 3 w1.heap.size (L.set k st) := by rw [hVe]; exact g15.set k st
    have ho5 : V.os = Wr.os ∧ V.tape = Wr.tape ∧ V.output = Wr.output := by rw [hVe]; exact ⟨hX5.os, hX5.tape, hX5.output⟩
    clear hVe kS kk f0 f1 f2 f3 f4 bm hi0 hi1
    have hne0 : ∀ j, j < w.heap.size → j ≠ w1.heap.size := fun j hj => by omega
    have hgz := g3.size
    gi_wp2
    refine ⟨⟨hz5, fun j o hj ho hc => ?_⟩, ⟨fun q => ?_, fun m S q => q.keep (hb5 m q.lt fun e => ?_)⟩, ⟨?_, (hb5 _ g2.lt hBn2).trans g2⟩, ⟨ho5.1.trans g3.os, ho5.2.1.trans g3.tape, ho5.2.2.trans g3.output, Nat.le_trans g3.size hz5, fun j hj => (hb5 j (by omega) (hne0 j hj)).trans (g3.block j hj)⟩, Nat.le_trans g4 hz5⟩
    · refine (hb5 j (Array.getElem?_eq_some_iff.1 ho).1 fun e => ?_).trans ho
      rw [e, show Wr.heap[w1.heap.size]? = _ from g1] at ho
      cases ho
      cases hc
    · exact ⟨(hb5 _ (by omega) hBn1).trans q.1, Nat.le_trans q.2.1 hz5, fun j hj => (hb5 j (by omega) (hne0 j hj)).trans (q.2.2 j hj)⟩
    · obtain ⟨es, clock, q1, _⟩ := q
      rw [e, show Wr.heap[w1.heap.size]? = _ from g1] at q1
      cases q1
    · rw [HN.out]
      exact hR5
  case done =>
    rintro D ys Wr hD hys ⟨⟨g1, g2⟩, g3, g4⟩ hKd
    rw [fillB_all (List.length_replicate ..) hys] at g1
    have cB := g2.cell
    have HR := Lib.hid g1
    clear g1 h hAt hRow3 hBox
    gi_wp2
    have hdefs : Defs Wr w.heap.size [D] := ⟨by simp, fun E hE => by
      have hE' : E = D := by simpa using hE
      subst hE'
      exact ⟨by have := hX3.size; omega, hKd⟩⟩
    refine leaves_all (B := w.heap.size) [D] _ hdefs fun W' hW' => ?_
    exact ⟨_, results_tmp2 rfl _ _ _, w1.heap.size, rfl, hBs, hW'.cells _ _ HR.out rfl, ⟨hW'.os.trans g3.os, hW'.tape.trans g3.tape, hW'.output.trans g3.output, Nat.le_trans g3.size (Nat.le_of_eq hW'.size.symm), fun k hk => (hW'.below k hk).trans (g3.block k hk)⟩⟩
end Go.Proofs
