import Derived.Test.YtpickbchpnbffaaGreatKeep1
import Derived.Test.YtpickbchpnbffaaGreatSetOf
import Derived.Test.YtpickbchpnbffaaGreatGrP
import Derived.Maps.AppendAt
/- bite: setOf, touches, state, meet. -/
namespace Go.Proofs
open Go.RowKit
set_option maxHeartbeats 16000000
set_option maxRecDepth 1000000
theorem bitSetOf_ok (l : List Cel) (v : Value) (w : World) (hl : Sl w v l) (hn : l.length ≤ maxLen) :
    Calls Tryz.prog 69 #[v] w fun e w' => ∃ b, e = .returned (.map (some b)) ∧ w.heap.size ≤ b ∧ CSet w' b (setL l) ∧ Below w.heap.size w w' := by
  unfold maxLen at hn
  obtain ⟨A, cap, rfl⟩ := hl.form
  have hmk := run_makeMap_some 107 l.length w ⟨_, _, Tryz.underlying107⟩
  have hmade : CSet (w.alloc (.map #[] 0)) w.heap.size (setL (l.take 0)) := by
    have := CMap.made w
    simpa [setL, CSet] using this
  have hB0 : Below w.heap.size w (w.alloc (.map #[] 0)) := (Below.refl _ _).alloc (Nat.le_refl _) _
  go_enter Tryz.func69, Tryz.ntmps69
  go_wp2
  go_loopw [11] (fun i wr => ∃ k : Nat, k ≤ l.length ∧ i = .int .i64 k ∧ CSet wr w.heap.size (setL (l.take k)) ∧ Below w.heap.size w wr) (fun i _ => l.length - (intOf i).toNat)
  case atStart => exact ⟨0, Nat.zero_le _, rfl, hmade, hB0⟩
  case round =>
    obtain ⟨k, hk, rfl, hset, hB⟩ := hrel
    rename World => w1
    rcases Nat.lt_or_eq_of_le hk with hkn | rfl
    · obtain ⟨b, o, x, y, z, rfl, -, hb, hc, r0, r1, r2⟩ := hl.cells hkn
      have hsz := hB.size
      rw [← hB.cell (p := ⟨b, _, none⟩) hb] at r0 r1 r2
      have hset1 := hset.alloc (.cells #[.int .i64 x, .int .i64 y, .int .i64 z] 34)
      have HT := Lib.hid (setL_take hc)
      clear hl hset hmk hmade hB0
      go_wp2_with (at_mapUpdate; refine wpList_update_set rfl _ _ _ _ rfl Tryz.underlying107 w.heap.size _ rfl hset1 (x, y, z) rfl rfl ?_; intro w2 hset2 hg2)
      refine ⟨⟨k + 1, hkn, rfl, by rw [HT.out]; exact hset2, (hB.alloc hsz _).grown hg2 (by simp; omega) (fun j e => by cases e; exact Nat.le_refl _)⟩, by simp [intOf]; omega⟩
    · rw [List.take_length] at hset
      clear hl hmk hmade hB0
      go_wp2
      go_ret
      exact ⟨_, rfl, Nat.le_refl _, hset, hB⟩
theorem bitLook (b : Nat) (S : List Cel) (w : World) (hs : CSet w b S) (x y z : Int) (r : Bool) (hr : decide ((x, y, z) ∈ S) = r) :
    (Instr.lookup 107 (.map (some b)) (.agg #[.int .i64 x, .int .i64 y, .int .i64 z]) false).run Tryz.prog w = .ok (.bool r) w := by
  have hz : (zeroValue 4).run Tryz.prog w = .ok (.bool false) w := by go_simp
  have hl := lookup_cells hs Tryz.underlying107 hz (x, y, z) false
  rw [getC_set] at hl
  have e : ((if (x, y, z) ∈ S then some (Value.bool true) else none : Option Value).getD (.bool false)) = .bool r := by
    subst hr
    by_cases hc : (x, y, z) ∈ S <;> simp [hc]
  rw [e] at hl
  simp only [Bool.false_eq_true, if_false] at hl
  exact hl
theorem bitTouches_ok (b : Nat) (S : List Cel) (x y z : Int) (w : World) (hs : CSet w b S) (hn : Near (x, y, z) 9000) :
    Calls Tryz.prog 89 #[.map (some b), .agg #[.int .i64 x, .int .i64 y, .int .i64 z]] w fun e w' => e = .returned (.bool (touchB S (x, y, z))) ∧ Below w.heap.size w w' := by
  unfold Near at hn
  dsimp only at hn
  have a1 := wrapS (n := x - 1) (by omega)
  have a2 := wrapS (n := y - 1) (by omega)
  have a3 := wrapS (n := z - 1) (by omega)
  have a4 := wrapS (n := z + 1) (by omega)
  have a5 := wrapS (n := y + 1) (by omega)
  have a6 := wrapS (n := x + 1) (by omega)
  have hB : Below w.heap.size w (w.alloc (.cells #[.int .i64 x, .int .i64 y, .int .i64 z] 34)) := (Below.refl _ _).alloc (Nat.le_refl _) _
  have hs1 := hs.alloc (.cells #[.int .i64 x, .int .i64 y, .int .i64 z] 34)
  unfold touchB
  dsimp only
  have l1 := bitLook b S _ hs1 (x - 1) y z _ rfl
  have l2 := bitLook b S _ hs1 (x + 1) y z _ rfl
  have l3 := bitLook b S _ hs1 x (y - 1) z _ rfl
  have l4 := bitLook b S _ hs1 x (y + 1) z _ rfl
  have l5 := bitLook b S _ hs1 x y (z - 1) _ rfl
  have l6 := bitLook b S _ hs1 x y (z + 1) _ rfl
  generalize decide ((x - 1, y, z) ∈ S) = r1 at l1 ⊢
  generalize decide ((x + 1, y, z) ∈ S) = r2 at l2 ⊢
  generalize decide ((x, y - 1, z) ∈ S) = r3 at l3 ⊢
  generalize decide ((x, y + 1, z) ∈ S) = r4 at l4 ⊢
  generalize decide ((x, y, z - 1) ∈ S) = r5 at l5 ⊢
  generalize decide ((x, y, z + 1) ∈ S) = r6 at l6 ⊢
  clear hs hs1 hn
  cases r1 with
  | true =>
    clear l2 l3 l4 l5 l6
    go_enter Tryz.func89, Tryz.ntmps89
    simp only [List.append_eq, List.cons_append, List.nil_append]
    go_wp2
    go_ret
    exact ⟨by simp, hB⟩
  | false =>
    cases r2 with
    | true =>
      clear l3 l4 l5 l6
      go_enter Tryz.func89, Tryz.ntmps89
      simp only [List.append_eq, List.cons_append, List.nil_append]
      go_wp2
      go_ret
      exact ⟨by simp, hB⟩
    | false =>
      cases r3 with
      | true =>
        clear l4 l5 l6
        go_enter Tryz.func89, Tryz.ntmps89
        simp only [List.append_eq, List.cons_append, List.nil_append]
        go_wp2
        go_ret
        exact ⟨by simp, hB⟩
      | false =>
        cases r4 with
        | true =>
          clear l5 l6
          go_enter Tryz.func89, Tryz.ntmps89
          simp only [List.append_eq, List.cons_append, List.nil_append]
          go_wp2
          go_ret
          exact ⟨by simp, hB⟩
        | false =>
          cases r5 with
          | true =>
            clear l6
            go_enter Tryz.func89, Tryz.ntmps89
            simp only [List.append_eq, List.cons_append, List.nil_append]
            go_wp2
            go_ret
            exact ⟨by simp, hB⟩
          | false =>
            cases r6 with
            | true =>
              go_enter Tryz.func89, Tryz.ntmps89
              simp only [List.append_eq, List.cons_append, List.nil_append]
              go_wp2
              go_ret
              exact ⟨by simp, hB⟩
            | false =>
              go_enter Tryz.func89, Tryz.ntmps89
              simp only [List.append_eq, List.cons_append, List.nil_append]
              go_wp2
              go_ret
              exact ⟨by simp, hB⟩
/-- What a meeting's slices say of its state. -/
theorem bitState_ok (A1 A2 : Option Addr) (n1 c1 n2 c2 : Nat) (w : World) :
    Calls Tryz.prog 29 #[.agg #[.slice A1 n1 c1, .slice A2 n2 c2]] w fun e w' => e = .returned (.int .i64 (if 0 < n1 then 2 else if 0 < n2 then 1 else 0)) ∧ Below w.heap.size w w' := by
  have hB : Below w.heap.size w (w.alloc (.cells #[.slice A1 n1 c1, .slice A2 n2 c2] 61)) := (Below.refl _ _).alloc (Nat.le_refl _) _
  by_cases h1 : 0 < n1
  · rw [if_pos h1]
    go_enter Tryz.func29, Tryz.ntmps29
    go_wp2
    go_ret
    exact ⟨rfl, hB⟩
  · rw [if_neg h1]
    by_cases h2 : 0 < n2
    · rw [if_pos h2]
      go_enter Tryz.func29, Tryz.ntmps29
      go_wp2
      go_ret
      exact ⟨rfl, hB⟩
    · rw [if_neg h2]
      go_enter Tryz.func29, Tryz.ntmps29
      go_wp2
      go_ret
      exact ⟨rfl, hB⟩
/-- Where there are hits there are no contacts. -/
def conM (u l : List Cel) (s : Cel) : List Cel := if hitB u l s = [] then conB u l s else []
theorem state_len (u l : List Cel) (s : Cel) : (if 0 < (hitB u l s).length then (2 : Int) else if 0 < (conM u l s).length then 1 else 0) = stateB u l s := by
  unfold stateB conM
  by_cases h : hitB u l s = []
  · rw [if_pos h, h]
    simp only [List.length_nil, Nat.lt_irrefl, if_false, ne_eq, not_true_eq_false]
    by_cases h2 : conB u l s = []
    · rw [h2]
      simp
    · rw [if_pos (List.length_pos_iff.2 h2), if_pos h2]
  · rw [if_pos (List.length_pos_iff.2 h), if_pos h]
theorem hit_take {u l : List Cel} {s c : Cel} {k : Nat} (hc : u[k]? = some c) (hb : backC s c ∈ l) : hitB (u.take (k + 1)) l s = hitB (u.take k) l s ++ [c] ∧ conB (u.take (k + 1)) l s = conB (u.take k) l s := by
  unfold hitB conB
  rw [List.take_add_one, hc, List.filter_append, List.filter_append]
  constructor
  · congr 1
    simp [hb]
  · simp [hb]
theorem con_take {u l : List Cel} {s c : Cel} {k : Nat} (hc : u[k]? = some c) (hb : backC s c ∉ l) (ht : touchB l (backC s c) = true) : hitB (u.take (k + 1)) l s = hitB (u.take k) l s ∧ conB (u.take (k + 1)) l s = conB (u.take k) l s ++ [c] := by
  unfold hitB conB
  rw [List.take_add_one, hc, List.filter_append, List.filter_append]
  constructor
  · simp [hb]
  · congr 1
    simp [hb, ht]
theorem none_take {u l : List Cel} {s c : Cel} {k : Nat} (hc : u[k]? = some c) (hb : backC s c ∉ l) (ht : touchB l (backC s c) = false) : hitB (u.take (k + 1)) l s = hitB (u.take k) l s ∧ conB (u.take (k + 1)) l s = conB (u.take k) l s := by
  unfold hitB conB
  rw [List.take_add_one, hc, List.filter_append, List.filter_append]
  constructor
  · simp [hb]
  · simp [hb, ht]
theorem touch_setL {l : List Cel} {c : Cel} : touchB (setL l) c = touchB l c := by
  unfold touchB
  simp only [mem_setL]
/-- An own row stays where its block does. -/
theorem Own.same {w w' : World} {B : Nat} {v : Value} {l : List Cel} (h : Own w B v l) (hb : ∀ g, v.ownBlock = some g → w'.heap[g]? = w.heap[g]?) : Own w' B v l := by
  refine ⟨h.1, ?_⟩
  rcases h.2 with h1 | ⟨g, cap, cur, rfl, hB, hg, r⟩
  · exact .inl h1
  · exact .inr ⟨g, cap, cur, rfl, hB, (hb g rfl).trans hg, r⟩
section
variable {w : World} {ops : Array Oper} {rest : List Oper} {o : Oper} {a : Act} {Q : Exit → Act → World → Prop}
/-- append of one cell that was just laid. -/
theorem wpList_append_one (hgd : o.guard = none) (s x : Operand) (ho : o.op = .call { callee := .builtin .append, args := #[s, x], argTypes := #[22, 22] }) (B : Nat) (hB : B ≤ w.heap.size) (v : Value) (l : List Cel) (hs : a.eval s = v) (hown : Own w B v l) (c : Cel)
    (hx : a.eval x = .slice (some ⟨w.heap.size, 0, none⟩) 1 1) (hn : l.length + 1 ≤ 1000000)
    (h : ∀ v' w', Own w' B v' (l ++ [c]) → (w.alloc (.cells #[.int .i64 c.1, .int .i64 c.2.1, .int .i64 c.2.2] 34)).grownBy w' v.ownBlock → (v'.ownBlock = v.ownBlock ∨ v'.ownBlock = some (w.heap.size + 1)) → (∃ g cap, v' = .slice (some ⟨g, 0, none⟩) (l.length + 1) cap) → wpList Tryz.prog ops Q rest (a.put o.dst v') w') :
    wpList Tryz.prog ops Q (o :: rest) a (w.alloc (.cells #[.int .i64 c.1, .int .i64 c.2.1, .int .i64 c.2.2] 34)) := by
  obtain ⟨j0, hj, hy0, hy1, hy2⟩ := info_parts (P := Tryz.prog) (e := 34) (z := .agg #[.int .i64 0, .int .i64 0, .int .i64 0]) (size := 3) (bytes := 24) (by kernel_rfl)
  refine wpList_append_own_at _ hgd s x 22 ho B 34 j0 _ 3 24 Tryz.underlying22 hj hy0 hy1 hy2 rfl (by decide) v l.length (flatC l) hs (hown.alloc _) ⟨w.heap.size, 0, none⟩ 1 1 (encC c) hx rfl (cell_three_new w c _)
    (fun u hu => by simp [encC] at hu; rcases hu with rfl | rfl | rfl <;> rfl) (by unfold maxLen; omega) (by omega) (by simp; omega) (fun v' w' h1 h2 _ h4 => ?_)
  obtain ⟨g', cap', rfl⟩ := ownsRow_succ h1
  refine h _ w' ?_ h2 (by simpa using h4) ⟨g', cap', rfl⟩
  have : Own w' B (.slice (some ⟨g', 0, none⟩) (l.length + 1) cap') (l ++ [c]) := own_of h1 (by simp) (by rw [flatC_append]; simp [flatC])
  exact this
end
/-- meet's state: the hits and contacts so far lie in rows of their own; all else that was there before is as it was. -/
structure MeetS (W1 : World) (Bm : Nat) (T : TypeId) (vh vc : Value) (H C : List Cel) (W : World) : Prop where
  m : W.heap[Bm]? = some (.cells #[vh, vc] T (0, 0))
  hits : Own W W1.heap.size vh H
  cons : Own W W1.heap.size vc C
  ne : ∀ g, vh.ownBlock = some g → vc.ownBlock ≠ some g
  keep : Keep1 W1.heap.size Bm W1 W
theorem Own.ge {w : World} {B g : Nat} {v : Value} {l : List Cel} (h : Own w B v l) (hg : v.ownBlock = some g) : B ≤ g ∧ g < w.heap.size := by
  rcases h.2 with ⟨rfl, _⟩ | ⟨g', cap, cur, rfl, hB, hg', r⟩
  · cases hg
  · obtain rfl : g' = g := by simpa [Value.ownBlock] using hg
    exact ⟨hB, (Array.getElem?_eq_some_iff.1 hg').1⟩
theorem MeetS.below {W1 : World} {Bm : Nat} {T : TypeId} {vh vc : Value} {H C : List Cel} {W W' : World} (h : MeetS W1 Bm T vh vc H C W) (hB : Below W.heap.size W W') : MeetS W1 Bm T vh vc H C W' :=
  ⟨(hB.block _ (Array.getElem?_eq_some_iff.1 h.m).1).trans h.m, h.hits.keep hB, h.cons.keep hB, h.ne, h.keep.trans ⟨hB.os, hB.tape, hB.output, hB.size, fun k h1 _ => hB.block k (Nat.lt_of_lt_of_le h1 h.keep.size)⟩⟩
/-- A hit is put to the hits. -/
theorem MeetS.hit {W1 : World} {Bm : Nat} {T : TypeId} {vh vc vh' : Value} {H C : List Cel} {c : Cel} {W W' : World} {o : Obj} (h : MeetS W1 Bm T vh vc H C W) (hm : Bm < W1.heap.size) (hown : Own W' W1.heap.size vh' (H ++ [c])) (hg : (W.alloc o).grownBy W' vh.ownBlock) (hv : vh'.ownBlock = vh.ownBlock ∨ vh'.ownBlock = some (W.heap.size + 1)) :
    MeetS W1 Bm T vh' vc (H ++ [c]) C (W'.setCell ⟨Bm, 0, none⟩ vh') := by
  have hsz := h.keep.size
  have hblk : ∀ k, k < W.heap.size → vh.ownBlock ≠ some k → W'.heap[k]? = W.heap[k]? := fun k hk hne => (hg.block k (by simp; omega) (fun e => hne e.symm)).trans (Below.heap_alloc W o k hk)
  have hmb : W'.heap[Bm]? = some (.cells #[vh, vc] T (0, 0)) := (hblk Bm (by omega) (fun e => by have := (h.hits.ge e).1; omega)).trans h.m
  have hset : ∀ k, k ≠ Bm → (W'.setCell ⟨Bm, 0, none⟩ vh').heap[k]? = W'.heap[k]? := fun k hk => Below.heap_setCell W' ⟨Bm, 0, none⟩ vh' k hk
  refine ⟨by have := heap_setCell_same W' Bm 0 _ T vh' hmb; simpa using this, hown.same fun g e => hset g (by have := (hown.ge e).1; omega), ?_, ?_, ?_⟩
  · refine h.cons.same fun g e => (hset g (by have := (h.cons.ge e).1; omega)).trans (hblk g (h.cons.ge e).2 fun e' => h.ne g e' e)
  · intro g e e'
    rcases hv with hv | hv
    · exact h.ne g (hv ▸ e) e'
    · have := (h.cons.ge e').2
      rw [hv] at e
      have := Option.some.inj e
      omega
  · refine h.keep.trans ⟨hg.os, hg.tape, hg.output, ?_, fun k h1 h2 => (hset k h2).trans (hblk k (by omega) fun e => by have := (h.hits.ge e).1; omega)⟩
    have := hg.size
    simp at this
    show W.heap.size ≤ (W'.setCell _ _).heap.size
    simp [World.setCell]
    omega
/-- A contact is put to the contacts. -/
theorem MeetS.con {W1 : World} {Bm : Nat} {T : TypeId} {vh vc vc' : Value} {H C : List Cel} {c : Cel} {W W' : World} {o : Obj} (h : MeetS W1 Bm T vh vc H C W) (hm : Bm < W1.heap.size) (hown : Own W' W1.heap.size vc' (C ++ [c])) (hg : (W.alloc o).grownBy W' vc.ownBlock) (hv : vc'.ownBlock = vc.ownBlock ∨ vc'.ownBlock = some (W.heap.size + 1)) :
    MeetS W1 Bm T vh vc' H (C ++ [c]) (W'.setCell ⟨Bm, 1, none⟩ vc') := by
  have hsz := h.keep.size
  have hblk : ∀ k, k < W.heap.size → vc.ownBlock ≠ some k → W'.heap[k]? = W.heap[k]? := fun k hk hne => (hg.block k (by simp; omega) (fun e => hne e.symm)).trans (Below.heap_alloc W o k hk)
  have hmb : W'.heap[Bm]? = some (.cells #[vh, vc] T (0, 0)) := (hblk Bm (by omega) (fun e => by have := (h.cons.ge e).1; omega)).trans h.m
  have hset : ∀ k, k ≠ Bm → (W'.setCell ⟨Bm, 1, none⟩ vc').heap[k]? = W'.heap[k]? := fun k hk => Below.heap_setCell W' ⟨Bm, 1, none⟩ vc' k hk
  refine ⟨by have := heap_setCell_same W' Bm 1 _ T vc' hmb; simpa using this, ?_, hown.same fun g e => hset g (by have := (hown.ge e).1; omega), ?_, ?_⟩
  · refine h.hits.same fun g e => (hset g (by have := (h.hits.ge e).1; omega)).trans (hblk g (h.hits.ge e).2 fun e' => h.ne g e e')
  · intro g e e'
    rcases hv with hv | hv
    · exact h.ne g e (hv ▸ e')
    · have := (h.hits.ge e).2
      rw [hv] at e'
      have := Option.some.inj e'
      omega
  · refine h.keep.trans ⟨hg.os, hg.tape, hg.output, ?_, fun k h1 h2 => (hset k h2).trans (hblk k (by omega) fun e => by have := (h.cons.ge e).1; omega)⟩
    have := hg.size
    simp at this
    show W.heap.size ≤ (W'.setCell _ _).heap.size
    simp [World.setCell]
    omega
end Go.Proofs
