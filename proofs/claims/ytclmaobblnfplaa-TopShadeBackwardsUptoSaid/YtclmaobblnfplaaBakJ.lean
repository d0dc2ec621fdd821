import Derived.Test.YtclmaobblnfplaaShdM
import Derived.Test.YtclmaobblnfplaaJobK
/- Jobs backwards: two rows of jobs that grow beside each other; a part of some jobs; the best end. -/
namespace Go.Proofs
open Go.RowKit Go.MapKept
set_option maxHeartbeats 16000000
set_option maxRecDepth 1000000
def CapV (L : List JobV) : Prop := ∀ x ∈ L, x.2.1.2.1 ≤ x.2.1.2.2 ∧ x.2.2.2.1 ≤ x.2.2.2.2
theorem capV_of {w : World} {v : Value} {L : List JobV} {js : List JobT} (hl : SlF encJ w v L) (hi : InJ w L js) (hc : CapV L) : CapJ w v js := fun b o n c e k j hk => by
  obtain ⟨x, hx⟩ : ∃ x, L[k]? = some x := ⟨_, List.getElem?_eq_getElem (by rw [hi.1]; exact (List.getElem?_eq_some_iff.1 hk).1)⟩
  obtain ⟨g1, g2, g3⟩ := hi.2 k x j hx hk
  subst e
  obtain ⟨b', o', e2, -, -, -, c1, c2⟩ := jbv_cells hl hx
  injection e2 with e2
  injection e2 with e3 e4
  subst e3 e4
  obtain ⟨p1, p2⟩ := hc x (List.mem_of_getElem? hx)
  obtain ⟨nm, ⟨A, n1, k1⟩, A', n2, k2⟩ := x
  dsimp only at c1 c2 g2 g3 p1 p2
  obtain ⟨_, _, e5⟩ := g2.form
  obtain ⟨_, _, e6⟩ := g3.form
  unfold vS at e5 e6
  injection e5 with _ e5 _
  injection e6 with _ e6 _
  dsimp only at e5 e6
  subst e5 e6
  exact ⟨_, _, _, _, c1, c2, p1, p2⟩
/-- A list does not lie in a block. -/
def Fr (g : Nat) (s : VS) (l : List Int) : Prop := ∀ (a : Addr), s.1 = some a → l ≠ [] → a.block ≠ g
def FrL (g : Nat) (L : List JobV) (J : List JobT) : Prop := ∀ (k : Nat) (x : JobV) (j : JobT), L[k]? = some x → J[k]? = some j → Fr g x.2.1 j.2.1 ∧ Fr g x.2.2 j.2.2
theorem sli_at {w : World} {s : VS} {l : List Int} (h : SlI w (vS s) l) (hl : l ≠ []) {a : Addr} (ha : s.1 = some a) : a.block < w.heap.size := by
  rcases h with ⟨-, h2⟩ | ⟨a', c, h1, h2⟩
  · exact absurd h2 hl
  · obtain ⟨-, h3, -⟩ := h2 hl
    unfold vS at h1
    injection h1 with h1 _ _
    rw [ha] at h1
    obtain rfl := Option.some.inj h1
    exact h3
theorem fr_new {w : World} {s : VS} {l : List Int} {g : Nat} (h : SlI w (vS s) l) (hg : w.heap.size ≤ g) : Fr g s l := fun a ha hl => by
  have := sli_at h hl ha
  omega
theorem sli_grown {w w' : World} {row : Option Nat} {s : VS} {l : List Int} (h : SlI w (vS s) l) (ho : ∀ g, row = some g → Fr g s l) (hg : w.grownBy w' row) : SlI w' (vS s) l := by
  have h0 := h
  rcases h with h | ⟨a, cap, e, h⟩
  · exact .inl h
  · refine .inr ⟨a, cap, e, fun hl => ?_⟩
    obtain ⟨h1, h2, h3⟩ := h hl
    have ha : s.1 = some a := by
      unfold vS at e
      injection e with e _ _
    refine ⟨h1, Nat.lt_of_lt_of_le h2 hg.size, fun i x hi => ?_⟩
    have hb : w'.heap[a.block]? = w.heap[a.block]? := hg.block _ h2 fun e => ho _ e.symm a ha hl rfl
    exact (World.cell?_of_block (a := ⟨a.block, a.off + i, none⟩) hb).trans (h3 i x hi)
theorem snoc_get {α : Type} {l : List α} {x y : α} {k : Nat} (h : (l ++ [x])[k]? = some y) : (k < l.length ∧ l[k]? = some y) ∨ (k = l.length ∧ y = x) := by
  rw [List.getElem?_append] at h
  split at h
  · rename_i hk
    exact .inl ⟨hk, h⟩
  · have h2 := (List.getElem?_eq_some_iff.1 h).1
    rw [List.length_singleton] at h2
    have e : k - l.length = 0 := by omega
    rw [e] at h
    exact .inr ⟨by omega, by simpa using h.symm⟩
theorem InJ.snoc {w : World} {L : List JobV} {J : List JobT} {x : JobV} {j : JobT} (h : InJ w L J) (hx : x.1 = j.1) (h1 : SlI w (vS x.2.1) j.2.1) (h2 : SlI w (vS x.2.2) j.2.2) : InJ w (L ++ [x]) (J ++ [j]) := by
  refine ⟨by rw [List.length_append, List.length_append, h.1]; rfl, fun k y i hy hi => ?_⟩
  rcases snoc_get hy with ⟨a, b⟩ | ⟨a, rfl⟩ <;> rcases snoc_get hi with ⟨a', b'⟩ | ⟨a', rfl⟩
  · exact h.2 k y i b b'
  · have := h.1; omega
  · have := h.1; omega
  · exact ⟨hx, h1, h2⟩
theorem InJ.grown {w w' : World} {row : Option Nat} {L : List JobV} {J : List JobT} (h : InJ w L J) (ho : ∀ g, row = some g → FrL g L J) (hg : w.grownBy w' row) : InJ w' L J :=
  ⟨h.1, fun k x j hx hj => by
    obtain ⟨h1, h2, h3⟩ := h.2 k x j hx hj
    exact ⟨h1, sli_grown h2 (fun g e => (ho g e k x j hx hj).1) hg, sli_grown h3 (fun g e => (ho g e k x j hx hj).2) hg⟩⟩
theorem InJ.new {w : World} {L : List JobV} {J : List JobT} {g : Nat} (h : InJ w L J) (hg : w.heap.size ≤ g) : FrL g L J := fun k x j hx hj => by
  obtain ⟨-, h2, h3⟩ := h.2 k x j hx hj
  exact ⟨fr_new h2 hg, fr_new h3 hg⟩
theorem InJ.take {w : World} {L : List JobV} {J : List JobT} (h : InJ w L J) (n : Nat) : InJ w (L.take n) (J.take n) := by
  refine ⟨by rw [List.length_take, List.length_take, h.1], fun k x j hx hj => ?_⟩
  rw [List.getElem?_take] at hx hj
  split at hx
  · rename_i hk
    rw [if_pos hk] at hj
    exact h.2 k x j hx hj
  · cases hx
theorem FrL.snoc {g : Nat} {L : List JobV} {J : List JobT} {x : JobV} {j : JobT} (h : FrL g L J) (hl : L.length = J.length) (hx : Fr g x.2.1 j.2.1 ∧ Fr g x.2.2 j.2.2) : FrL g (L ++ [x]) (J ++ [j]) := fun k y i hy hi => by
  rcases snoc_get hy with ⟨a, b⟩ | ⟨a, rfl⟩ <;> rcases snoc_get hi with ⟨a', b'⟩ | ⟨a', rfl⟩
  · exact h k y i b b'
  · omega
  · omega
  · exact hx
structure JR2 (w : World) (B : Nat) (v v' : Value) (L L' : List JobV) (J J' : List JobT) : Prop where
  o : OwnF encJ 3 31 w B v L
  o' : OwnF encJ 3 31 w B v' L'
  i : InJ w L J
  i' : InJ w L' J'
  c : CapV L
  c' : CapV L'
  f : ∀ g, v.ownBlock = some g ∨ v'.ownBlock = some g → FrL g L J ∧ FrL g L' J'
  d : ∀ g, v.ownBlock = some g → v'.ownBlock ≠ some g
theorem JR2.swap {w : World} {B : Nat} {v v' : Value} {L L' : List JobV} {J J' : List JobT} (h : JR2 w B v v' L L' J J') : JR2 w B v' v L' L J' J :=
  ⟨h.o', h.o, h.i', h.i, h.c', h.c, fun g e => (h.f g e.symm).symm, fun g e e' => h.d g e' e⟩
theorem JR2.nil (w : World) (B : Nat) : JR2 w B (.slice none 0 0) (.slice none 0 0) [] [] [] [] :=
  ⟨OwnF.nil _ _ _, OwnF.nil _ _ _, ⟨rfl, fun k x j h => by simp at h⟩, ⟨rfl, fun k x j h => by simp at h⟩, fun x h => by simp at h, fun x h => by simp at h, fun g e => (by rcases e with e | e <;> cases e), fun g e => by cases e⟩
theorem JR2.below {w w' : World} {B : Nat} {v v' : Value} {L L' : List JobV} {J J' : List JobT} (h : JR2 w B v v' L L' J J') (hb : Below w.heap.size w w') : JR2 w' B v v' L L' J J' :=
  ⟨h.o.keep hb, h.o'.keep hb, h.i.below hb, h.i'.below hb, h.c, h.c', h.f, h.d⟩
theorem JR2.put {w w2 : World} {B : Nat} {v v' V : Value} {L L' : List JobV} {J J' : List JobT} {x : JobV} {j : JobT} (h : JR2 w B v v' L L' J J') (hx : x.1 = j.1) (h1 : SlI w (vS x.2.1) j.2.1) (h2 : SlI w (vS x.2.2) j.2.2)
    (hc : x.2.1.2.1 ≤ x.2.1.2.2 ∧ x.2.2.2.1 ≤ x.2.2.2.2) (hf : ∀ g, v.ownBlock = some g ∨ v'.ownBlock = some g → Fr g x.2.1 j.2.1 ∧ Fr g x.2.2 j.2.2) (ho : OwnF encJ 3 31 w2 B V (L ++ [x])) (hg : w.grownBy w2 v.ownBlock)
    (hn : V.ownBlock = v.ownBlock ∨ V.ownBlock = some w.heap.size) : JR2 w2 B V v' (L ++ [x]) L' (J ++ [j]) J' := by
  have hlt' := h.o'.lt
  refine ⟨ho, h.o'.keepB fun g e => hg.block g (hlt' g e).2 fun e2 => h.d g e2.symm e, ?_, h.i'.grown (fun g e => (h.f g (.inl e)).2) hg, fun y hy => ?_, h.c', fun g e => ?_, fun g e e2 => ?_⟩
  · exact (h.i.grown (fun g e => (h.f g (.inl e)).1) hg).snoc hx (sli_grown h1 (fun g e => (hf g (.inl e)).1) hg) (sli_grown h2 (fun g e => (hf g (.inl e)).2) hg)
  · rcases List.mem_append.1 hy with hy | hy
    · exact h.c y hy
    · obtain rfl : y = x := by simpa using hy
      exact hc
  · have key : (v.ownBlock = some g ∨ v'.ownBlock = some g) ∨ g = w.heap.size := by
      rcases e with e | e
      · rcases hn with hn | hn
        · exact .inl (.inl (hn ▸ e))
        · rw [hn] at e
          exact .inr (Option.some.inj e).symm
      · exact .inl (.inr e)
    rcases key with k | rfl
    · exact ⟨(h.f g k).1.snoc h.i.1 (hf g k), (h.f g k).2⟩
    · exact ⟨(h.i.new (Nat.le_refl _)).snoc h.i.1 ⟨fr_new h1 (Nat.le_refl _), fr_new h2 (Nat.le_refl _)⟩, h.i'.new (Nat.le_refl _)⟩
  · rcases hn with hn | hn
    · exact h.d g (hn ▸ e) e2
    · rw [hn] at e
      obtain rfl := Option.some.inj e
      have := (hlt' _ e2).2
      omega
theorem flatF_pre {L : List JobV} {s j : Nat} {u : Value} (h : (flatF encJ (L.take s))[j]? = some u) : (flatF encJ L)[j]? = some u := by
  have e : flatF encJ L = flatF encJ (L.take s) ++ flatF encJ (L.drop s) := by rw [← flatF_append, List.take_append_drop]
  rw [e, List.getElem?_append_left (List.getElem?_eq_some_iff.1 h).1]
  exact h
theorem slcJ (A : Option Addr) (c s : Nat) (L : List JobV) (hs : s ≤ L.length) (hc : L.length ≤ c) : ∃ (A' : Option Addr) (c' : Nat), (∀ W, (Instr.slice 22 (.slice A L.length c) none (some (.int .i64 s)) none).run Try.prog W = .ok (.slice A' s c') W) ∧ ∀ W, SlF encJ W (.slice A L.length c) L → SlF encJ W (.slice A' s c') (L.take s) := by
  have hz : ∀ W, (sizeOf (Try.prog.elem 22)).run Try.prog W = .ok 3 W := fun W => by go_simp
  refine ⟨if c = 0 then A else A.map (·.add 0), c, fun W => ?_, fun W h => ?_⟩
  · rw [run_slice_h W 22 A L.length c (by kernel_rfl) .i64 (s : Int) (by omega) (by omega), hz]
    simp [Result.andThen, sliced]
  · have hl : (L.take s).length = s := by rw [List.length_take]; omega
    rcases h with ⟨h1, h2⟩ | ⟨a, c2, h1, h2⟩
    · injection h1 with e1 e2 e3
      subst e1 e3 h2
      obtain rfl : s = 0 := by simpa using hs
      exact .inl ⟨by simp, by simp⟩
    · injection h1 with e1 _ e3
      subst e1 e3
      by_cases hn : L = []
      · subst hn
        obtain rfl : s = 0 := by simpa using hs
        by_cases hc0 : c = 0
        · rw [if_pos hc0]
          exact .inr ⟨a, c, rfl, fun h => absurd rfl h⟩
        · rw [if_neg hc0]
          exact .inr ⟨a.add 0, c, rfl, fun h => absurd rfl h⟩
      · obtain ⟨h3, h4, h5⟩ := h2 hn
        obtain ⟨b, o, sp⟩ := a
        obtain rfl : sp = none := h3
        have hc0 : c ≠ 0 := by have := List.length_pos_iff.2 hn; omega
        rw [if_neg hc0]
        refine .inr ⟨⟨b, o, none⟩, c, by rw [hl]; simp [Addr.add], fun _ => ⟨rfl, h4, fun j u hj => h5 j u (flatF_pre hj)⟩⟩
/-- The end of the best order; 0 without jobs. -/
def bestE (js : List JobT) : Int := if js.length = 0 then 0 else ((bestP (stN js) js).map (·.2)).getD 0
theorem stN_pos {js : List JobT} (hx : JobX js 0) : 0 < stN js ∧ stN js ≤ 8 := by
  have ok := hx.ok
  obtain ⟨j0, hj0⟩ : ∃ j, js[0]? = some j := ⟨_, List.getElem?_eq_getElem ok.pos⟩
  have hjo0 := ok.ok _ (List.mem_of_getElem? hj0)
  have h1 := hjo0.d
  have h2 := hjo0.few
  omega
theorem best_is {js : List JobT} (hx : JobX js 0) : ∃ b, bestP (stN js) js = some (b, endP js (stN js) b) ∧ OrdN js.length b ∧ bestE js = endP js (stN js) b ∧ ∀ p, OrdN js.length p → bestE js ≤ endP js (stN js) p := by
  have ok := hx.ok
  obtain ⟨o1, b1, -, -, hex, hob, hle⟩ := best_pick (m := stN js) ok.ok
  have hb3 : bestP (stN js) js = some (b1, endP js (stN js) b1) := hex
  have hbe : bestE js = endP js (stN js) b1 := by
    unfold bestE
    rw [if_neg (by have := ok.pos; omega), hb3]
    rfl
  exact ⟨b1, hb3, hob, hbe, fun p hp => by rw [hbe]; exact hle p hp⟩
theorem bestE_back {js : List JobT} (hx : JobX js 0) : bestE (backL js) = bestE js := by
  have hm := (stN_pos hx).1
  have key : ∀ {js : List JobT}, JobX js 0 → bestE (backL js) ≤ bestE js := fun {js} hx => by
    have hm := (stN_pos hx).1
    obtain ⟨b, -, h2, h3, -⟩ := best_is hx
    obtain ⟨-, -, -, -, h4⟩ := best_is (jobX_back hx)
    have h5 := h4 b.reverse (by rw [backL_len]; exact h2.rev)
    rw [stN_back, back_eq hm hx.ok.ok hx.ok.pos h2] at h5
    omega
  refine Int.le_antisymm (key hx) ?_
  have h := key (jobX_back hx)
  rwa [backL_back] at h
theorem bestE_slow {js : List JobT} (hx : JobX js 0) {e : Int} (he : 0 ≤ e) : bestE js ≤ bestE (slowL e js) := by
  obtain ⟨-, -, -, -, h4⟩ := best_is hx
  obtain ⟨b, -, h2, h3, -⟩ := best_is (jobX_slow he hx)
  rw [slowL_len] at h2
  have h5 := h4 b h2
  have h6 := slow_le (stN_pos hx).1 he hx.ok.ok h2
  rw [stN_slow] at h3
  omega
theorem bestE_nn {js : List JobT} (hx : JobX js 0) : 0 ≤ bestE js := by
  obtain ⟨b, -, h2, h3, -⟩ := best_is hx
  rw [h3]
  have h1 := free_take hx.ok.ok h2.lt b.length
  rw [List.take_length] at h1
  exact (h1.2 _).1
theorem bestE_take {js : List JobT} (hx : JobX js 0) {s : Nat} (hs : s = js.length - 1 ∨ s = js.length) : bestE (js.take s) ≤ bestE js := by
  rcases hs with rfl | rfl
  · by_cases h1 : js.length = 1
    · have e : bestE (js.take (js.length - 1)) = 0 := by
        unfold bestE
        rw [if_pos (by rw [List.length_take]; omega)]
      rw [e]
      exact bestE_nn hx
    · have hp := hx.ok.pos
      have hx2 := jobX_take hx (n := js.length - 1) (by omega) (by omega)
      obtain ⟨b, -, h2, h3, -⟩ := best_is hx
      obtain ⟨-, -, -, -, h4⟩ := best_is hx2
      obtain ⟨q, hq, hle⟩ := less_le (stN_pos hx).1 hx.ok.ok h2 hp
      have h5 := h4 q (by rw [List.length_take, Nat.min_eq_left (by omega)]; exact hq)
      rw [stN_take (by omega)] at h5
      omega
  · rw [List.take_length]
    exact Int.le_refl _
theorem take_snoc' {α : Type} {l : List α} {k : Nat} {x : α} (h : l[k]? = some x) : l.take k ++ [x] = l.take (k + 1) := by rw [List.take_add_one, h]; rfl
theorem min_two (a b : Int) : ∃ z, min a b = z ∧ ((b < a ∧ z = b) ∨ (a ≤ b ∧ z = a)) := by
  by_cases h : b < a
  · exact ⟨_, rfl, .inl ⟨h, by omega⟩⟩
  · exact ⟨_, rfl, .inr ⟨by omega, by omega⟩⟩
theorem scanK_ex {α : Type} (l : List α) (E : Nat → α → Int) : ∀ k, PreE l E k ∨ ∃ e, ScanE l E e
  | 0 => .inl fun j s h => absurd h (Nat.not_lt_zero j)
  | k + 1 => by
    rcases scanK_ex l E k with h | h
    · cases hk : l[k]? with
      | none =>
        refine .inl fun j s hj hs => ?_
        rcases Nat.lt_or_eq_of_le (Nat.le_of_lt_succ hj) with h2 | rfl
        · exact h j s h2 hs
        · rw [hk] at hs; cases hs
      | some t =>
        by_cases he : E k t = 0
        · refine .inl fun j s hj hs => ?_
          rcases Nat.lt_or_eq_of_le (Nat.le_of_lt_succ hj) with h2 | rfl
          · exact h j s h2 hs
          · obtain rfl := Option.some.inj (hk.symm.trans hs)
            exact he
        · exact .inr ⟨_, h.bad hk he⟩
    · exact .inr h
theorem jobX_is (js : List JobT) : ∃ n, JobX js n := by
  by_cases h0 : js.length = 0
  · exact ⟨12, .inl ⟨h0, rfl⟩⟩
  · by_cases h1 : 32 < js.length
    · exact ⟨5, .inr ⟨by omega, .inl ⟨h1, rfl⟩⟩⟩
    · rcases scanK_ex js (jobE js) js.length with h | ⟨e, h⟩
      · exact ⟨0, .inr ⟨by omega, .inr ⟨by omega, h.done (Nat.le_refl _)⟩⟩⟩
      · exact ⟨e, .inr ⟨by omega, .inr ⟨by omega, h⟩⟩⟩
theorem step_app {w w' : World} {ops : Array Oper} {o : Oper} {a : Act} {K : Act → World → Prop} {Q : Exit → Act → World → Prop} {E : Prop} (hgd : o.guard = none) (s x : Operand) (T : TypeId)
    (ho : o.op = .call { callee := .builtin .append, args := #[s, x], argTypes := #[T, T] }) (vs vx r : Value) (hs : a.eval s = vs) (hx : a.eval x = vx) (hr : (Builtin.append_ #[T, T] o.type #[vs, vx]).run Try.prog w = .ok r w')
    (h : K (a.put o.dst r) w') : if Region.wanted o (yielded ops a.tmps) = true then Oper.wp Try.prog o a w K Q else E := by
  have hw : Region.wanted o (yielded ops a.tmps) = true := by simp [Region.wanted, hgd]
  rw [if_pos hw]
  unfold Oper.wp execOp
  simp only [ho, resolve, invoke, builtin, Sem.run_bind, Sem.run_pure, Result.andThen_ok, List.map_toArray, List.map_cons, List.map_nil, hs, hx, hr]
  exact h
theorem ownI_form {T : TypeId} {w : World} {B : Nat} {v : Value} {l : List Int} (h : OwnI T w B v l) : ∃ (A : Option Addr) (c : Nat), v = .slice A l.length c ∧ l.length ≤ c := by
  rcases h.2 with ⟨h1, h2⟩ | ⟨g, cap, cur, h1, h2, h3, h4, h5⟩
  · exact ⟨none, 0, by rw [h1, h2], by omega⟩
  · exact ⟨_, cap, h1, h4⟩
theorem fr_own {T : TypeId} {w : World} {B g : Nat} {v : Value} {l : List Int} {s : VS} (h : OwnI T w B v l) (hv : v = vS s) (hg : g < B) : Fr g s l := fun a ha hl => by
  rcases h.2 with ⟨h1, h2⟩ | ⟨g', cap, cur, h1, h2, h3⟩
  · exact absurd (List.eq_nil_of_length_eq_zero h2) hl
  · rw [hv] at h1
    unfold vS at h1
    injection h1 with h1 _ _
    rw [ha] at h1
    obtain rfl := Option.some.inj h1
    have : B ≤ g' := h2
    show g' ≠ g
    omega
end Go.Proofs
