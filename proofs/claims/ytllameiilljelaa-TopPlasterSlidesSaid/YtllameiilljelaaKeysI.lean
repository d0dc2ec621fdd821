/- maps.Keys of a map of cells: its iterator. -/
import Derived.Test.YtllameiilljelaaHeldF
import Derived.Test.YtllameiilljelaaCollP
import Derived.Test.YtllameiilljelaaMapC
import Derived.Sort.MapsRangeIn
namespace Go.Proofs
open Go.Shelf Go.RowKit Go.Lib Go.Sort
set_option maxHeartbeats 8000000
set_option maxRecDepth 1000000
attribute [local go_sem] Oper.semAt_some
theorem run_range_cells {w : World} {b : Nat} {es : Array MapEntry} {clock : Nat} (hb : w.heap[b]? = some (.map es clock)) :
    (Instr.range 54 (.map (some b))).run Try.prog w = .ok (.pointer (some ⟨w.heap.size, 0, none⟩)) (w.alloc (.mapIter (some b) clock #[] clock)) := by
  unfold Instr.range
  simp only [Sem.run_bind, run_underlying Try.underlying54, Result.andThen, getObj, Sem.run, hb]
  rfl
/-- What a step of a range over a map does. -/
def Nexted (w w3 : World) (b r clock : Nat) (es : Array MapEntry) (seen : Array Nat) (e : MapEntry) : Prop := e ∈ (leftOf es seen).toList ∧ ∃ w1, (w1 = w ∨ w1 = w.drew) ∧ w3 = ChangeMaps.setBlock w1 r (.mapIter (some b) clock (seen.push e.born) clock)
section
variable {F : Fence} {nF : Nat} {w : World} {ops : Array Oper} {rest : List Oper} {o : Oper} {a : Act} {Q : Exit → Act → World → Prop}
theorem wpListIn_range_cells (hg : o.guard = none) (m : Operand) (hop : o.op = Op.range 54 m) {b : Nat} {es : Array MapEntry} {clock : Nat} (hm : a.eval m = .map (some b)) (hb : w.heap[b]? = some (.map es clock))
    (h : wpListIn F nF Try.prog ops Q rest (a.put o.dst (.pointer (some ⟨w.heap.size, 0, none⟩))) (w.alloc (.mapIter (some b) clock #[] clock))) : wpListIn F nF Try.prog ops Q (o :: rest) a w := by
  refine wpListIn_plain hg fun K hK => ?_
  unfold Oper.wpIn
  refine ⟨by simp [Oper.about, hop], ?_⟩
  rw [Oper.semAt_plain F _ _ (by rw [hop]; intro c hc'; cases hc')]
  simp [execOp, hop, hm, run_range_cells hb, Result.andThen]
  exact hK _ _ h
theorem wpListIn_next_cells (hg : o.guard = none) (it : Operand) (hop : o.op = Op.next it false) {b r clock : Nat} {es : Array MapEntry} {seen : Array Nat} (hit : a.eval it = .pointer (some ⟨r, 0, none⟩)) (hr : w.heap[r]? = some (.mapIter (some b) clock seen clock))
    (hb : w.heap[b]? = some (.map es clock)) (hborn : ∀ e ∈ es.toList, e.born < clock)
    (hDone : (leftOf es seen).size = 0 → wpListIn F nF Try.prog ops Q rest (a.put o.dst (.tuple #[.bool false])) w)
    (hMore : ∀ e w3, Nexted w w3 b r clock es seen e → wpListIn F nF Try.prog ops Q rest (a.put o.dst (.tuple #[.bool true, e.key, e.val])) w3) : wpListIn F nF Try.prog ops Q (o :: rest) a w := by
  refine wpListIn_plain hg fun K hK => ?_
  unfold Oper.wpIn
  refine ⟨by simp [Oper.about, hop], ?_⟩
  rw [Oper.semAt_plain F _ _ (by rw [hop]; intro c hc'; cases hc')]
  rcases run_next_at (P := Try.prog) w o.type r b clock clock seen es clock hr hb hborn (Nat.le_refl _) with ⟨h0, hnx⟩ | ⟨e, he, w1, hal, hnx⟩
  · simp [execOp, hop, hit, hnx, Result.andThen]
    exact hK _ _ (hDone h0)
  · simp [execOp, hop, hit, hnx, Result.andThen]
    exact hK _ _ (hMore e _ ⟨he, w1, hal, rfl⟩)
end
theorem cellV_mapsK : ∀ l m : List Cel, l.map cellV = m.map cellV → l = m
  | [], [], _ => rfl
  | [], _ :: _, h => by simp at h
  | _ :: _, [], h => by simp at h
  | x :: l, y :: m, h => by
    simp only [List.map_cons, List.cons.injEq] at h
    rw [cellV_inj h.1, cellV_mapsK l m h.2]
/-- How many entries are left of a range over a map. -/
def leftN (r n : Nat) (W : World) : Nat := match W.heap[r]? with
  | some (.mapIter _ _ seen _) => n - seen.size
  | _ => 0
theorem keys1_in (n : Nat) (hn : 1 ≤ n) (l Bm b : Nat) (S : List Cel) (hnd : S.Nodup) (J Jx : List Cel → World → Prop)
    (hY : ∀ pre x W, J pre W → pre.length < S.length → YieldAt Fence.wide (n - 1) Try.prog l #[cellV x] W fun e W' =>
      (e = .returned (.bool true) ∧ J (pre ++ [x]) W' ∧ KeepsWalks W W') ∨ (e = .returned (.bool false) ∧ Jx (pre ++ [x]) W'))
    (W : World) (hJ : AbidesFrom W.heap.size J) (hm : W.cell? ⟨Bm, 0, none⟩ = some (.map (some b))) (hs : CSet W b S) (h0 : J [] W) :
    CallsIn Fence.wide n Try.prog 69 #[.func (.yield l) #[] #[], .pointer (some ⟨Bm, 0, none⟩)] W fun e W' => (∃ v, e = .returned v) ∧ ((∃ ss : List Cel, ss.Perm S ∧ J ss W') ∨ (∃ pre, Jx pre W')) := by
  obtain ⟨es, clock, hb, hmap, hborn, hbnd⟩ := hs
  have hbl : b < W.heap.size := (Array.getElem?_eq_some_iff.1 hb).1
  have hkeys : es.toList.map (·.key) = S.map cellV := by
    have := congrArg (List.map Prod.fst) hmap
    simpa [List.map_map, Function.comp_def] using this
  obtain ⟨kc, hkc⟩ : ∃ kc : MapEntry → Cel, ∀ e, kc e = (match e.key with | .agg ⟨[.int .i64 x, .int .i64 y, .int .i64 z]⟩ => (x, y, z) | _ => (0, 0, 0)) := ⟨fun e => match e.key with | .agg ⟨[.int .i64 x, .int .i64 y, .int .i64 z]⟩ => (x, y, z) | _ => (0, 0, 0), fun _ => rfl⟩
  have hk1 : ∀ e ∈ es.toList, e.key = cellV (kc e) := fun e he => by
    have h : e.key ∈ S.map cellV := by rw [← hkeys]; exact List.mem_map.2 ⟨e, he, rfl⟩
    obtain ⟨c, _, hc⟩ := List.mem_map.1 h
    rw [hkc, ← hc]
    rfl
  have hk2 : es.toList.map kc = S := by
    have h : (es.toList.map kc).map cellV = S.map cellV := by
      rw [← hkeys, List.map_map]
      exact List.map_congr_left fun e he => (hk1 e he).symm
    exact cellV_mapsK _ _ h
  have hsz : es.size = S.length := by rw [← hk2]; simp
  clear hkc hkeys hmap
  refine callsIn_of_wp Try.func69 rfl trivial ?_ rfl
  simp only [Try.ntmps69, List.size_toArray, List.length_cons, List.length_nil, Nat.reduceAdd, Nat.reduceSub, Array.replicate_succ, Array.replicate_zero, List.push_toArray, List.append_toArray, List.nil_append, List.cons_append]
  gi_wp2_with (first
    | (gi_at_range; refine wpListIn_range_cells rfl _ rfl rfl hb ?_)
    | gi_in)
  have hr0 : (W.alloc (.mapIter (some b) clock #[] clock)).heap[W.heap.size]? = some (.mapIter (some b) clock #[] clock) := heap_alloc_new _ _
  have hb0 : (W.alloc (.mapIter (some b) clock #[] clock)).heap[b]? = some (.map es clock) := ((MapKept.heap_alloc _ _).2 b hbl).trans hb
  have hJ0 := hJ [] W (W.alloc (.mapIter (some b) clock #[] clock)) none h0 (World.grownBy_alloc _ _ none) (fun r e => by cases e)
  go_frame
  gi_loopw [3] (fun _ wr => ∃ vis : List MapEntry, wr.heap[W.heap.size]? = some (.mapIter (some b) clock (vis.map (·.born)).toArray clock) ∧ wr.heap[b]? = some (.map es clock) ∧ (∀ e ∈ vis, e ∈ es.toList) ∧ (vis.map (·.born)).Nodup ∧ J (vis.map kc) wr)
    (fun _ wr => leftN W.heap.size es.size wr)
  case atStart => exact ⟨[], hr0, hb0, (fun e h => by cases h), List.nodup_nil, hJ0⟩
  case round =>
    obtain ⟨vis, hr, hbw, hsub, hvd, hJv⟩ := hrel
    clear hr0 hb0 hJ0 h0 hm
    gi_wp2_with (first
      | (gi_at_next; refine wpListIn_next_cells rfl _ rfl rfl hr hbw hborn ?_ ?_)
      | gi_in)
    · intro hl0
      have hall : ∀ x ∈ es.toList, x.born ∈ vis.map (·.born) := fun x hx => by
        have he : leftOf es (vis.map (·.born)).toArray = #[] := hl0
        have := (Array.filter_eq_empty_iff.1 he) x (by simpa using hx)
        simpa using this
      have hlen' : es.size ≤ vis.length := by
        have h2 := nodup_len hbnd (m := vis.map (·.born)) (fun x hx => by
          obtain ⟨y, hy, rfl⟩ := List.mem_map.1 hx
          exact hall y hy)
        simpa using h2
      have hkn : (vis.map kc).Nodup := by
        rw [List.Nodup, List.pairwise_map] at hvd ⊢
        refine List.Pairwise.imp_of_mem (fun {a c} ha hc hne e => hne ?_) hvd
        rw [inj_of_nodup_map (by rw [hk2]; exact hnd) a (hsub a ha) c (hsub c hc) e]
      have hperm : (vis.map kc).Perm S := by
        rw [← hk2]
        exact nodup_perm hkn (fun x hx => by
          obtain ⟨y, hy, rfl⟩ := List.mem_map.1 hx
          exact List.mem_map.2 ⟨y, hsub y hy, rfl⟩) (by simpa using hlen')
      clear hl0 hall hlen' hkn
      gi_wp2
      go_end0
      exact ⟨⟨_, rfl⟩, .inl ⟨_, hperm, hJv⟩⟩
    · rintro e w3 ⟨he, w2, hal, hw3⟩
      have hg3 : wr.grownBy w3 (some W.heap.size) := by rw [hw3]; exact grown_setBlock hal _ _
      have hrlt : W.heap.size < wr.heap.size := (Array.getElem?_eq_some_iff.1 hr).1
      have hr3 : w3.heap[W.heap.size]? = some (.mapIter (some b) clock ((vis.map (·.born)).toArray.push e.born) clock) := by
        rw [hw3]
        have : W.heap.size < w2.heap.size := by rcases hal with rfl | rfl <;> exact hrlt
        simp [ChangeMaps.setBlock, this]
      have hbr : b ≠ W.heap.size := by omega
      have hb3 : w3.heap[b]? = some (.map es clock) := by
        rw [hg3.block b (by omega) (by simpa using hbr)]; exact hbw
      have hein : e ∈ es.toList := by
        have := he
        simp [leftOf] at this
        simpa using this.1
      have hent := run_entry_at (P := Try.prog) w3 W.heap.size b clock (vis.map (·.born)).toArray es clock e hr3 hb3 hein hbnd
      have hke := hk1 e hein
      have hnew : e.born ∉ vis.map (·.born) := by
        have := he
        simp [leftOf] at this
        simpa using this.2
      have hvd' : ((vis ++ [e]).map (·.born)).Nodup := by
        rw [List.map_append, List.nodup_append]
        refine ⟨hvd, by simp, fun a ha b hb' => ?_⟩
        simp only [List.map_cons, List.map_nil, List.mem_singleton] at hb'
        subst hb'
        intro h
        subst h
        exact hnew ha
      have hsub' : ∀ x ∈ vis ++ [e], x ∈ es.toList := fun x hx => by
        rcases List.mem_append.1 hx with h | h
        · exact hsub x h
        · simp only [List.mem_singleton] at h; subst h; exact hein
      have hroom : vis.length + 1 ≤ es.size := by
        have := nodup_len hvd' (m := es.toList.map (·.born)) (fun x hx => by
          obtain ⟨y, hy, rfl⟩ := List.mem_map.1 hx
          exact List.mem_map.2 ⟨y, hsub' y hy, rfl⟩)
        simpa using this
      have hJ3 : J (vis.map kc) w3 := hJ _ wr w3 (some W.heap.size) hJv hg3 (fun r e' => by cases e'; exact ⟨Nat.le_refl _, _, hr, rfl⟩)
      obtain ⟨c, hc⟩ : ∃ c, kc e = c := ⟨_, rfl⟩
      rw [hc] at hke
      rw [hke] at hent ⊢
      obtain ⟨x, y, z⟩ := c
      unfold cellV at hent ⊢
      dsimp only at hent ⊢
      have hJ4 := hJ (vis.map kc) w3 (w3.alloc (.cells #[.int .i64 x, .int .i64 y, .int .i64 z] 26)) none hJ3 (World.grownBy_alloc _ _ none) (fun r e => by cases e)
      have hr4 : (w3.alloc (.cells #[.int .i64 x, .int .i64 y, .int .i64 z] 26)).heap[W.heap.size]? = some (.mapIter (some b) clock ((vis.map (·.born)).toArray.push e.born) clock) := ((MapKept.heap_alloc _ _).2 _ (Array.getElem?_eq_some_iff.1 hr3).1).trans hr3
      have hb4 : (w3.alloc (.cells #[.int .i64 x, .int .i64 y, .int .i64 z] 26)).heap[b]? = some (.map es clock) := ((MapKept.heap_alloc _ _).2 _ (Array.getElem?_eq_some_iff.1 hb3).1).trans hb3
      obtain ⟨fn, tmps, assign, body, hyd, hR⟩ := hY (vis.map kc) (x, y, z) _ hJ4 (by simp; omega)
      unfold cellV at hyd
      dsimp only at hyd
      have hleft : leftN W.heap.size es.size wr = es.size - vis.length := by
        unfold leftN
        rw [hr]
        simp
      clear hal hw3 hg3 he hke hJ3 hJv hr hbw
      gi_wp2
      refine hR.mono ?_
      rintro e' W3 (⟨rfl, hJ5, hk5⟩ | ⟨rfl, hJx5⟩)
      · have hr5 := hk5.same _ _ hr4 rfl
        have hb5 := hk5.same _ _ hb4 rfl
        clear hyd hR hent
        gi_wp2
        go_roundw
        case rel => exact ⟨vis ++ [e], by rw [hr5]; simp, hb5, hsub', hvd', by rw [List.map_append, List.map_cons, List.map_nil, hc]; exact hJ5⟩
        case measure =>
          rw [hleft]
          unfold leftN
          rw [hr5]
          simp
          omega
      · clear hyd hR hent
        gi_wp2
        refine bodyPost_ret (results_none rfl _ _ _) rfl ?_
        exact ⟨⟨_, rfl⟩, .inr ⟨_, hJx5⟩⟩
theorem keys_stops (n : Nat) (hn : 1 ≤ n) (Bm b : Nat) (S : List Cel) (hnd : S.Nodup) (w : World) (B : Nat) (hm : w.cell? ⟨Bm, 0, none⟩ = some (.map (some b))) (hBm : Bm < w.heap.size) (hs : CSet w b S) :
    SeqStopsK Fence.wide n Try.prog 69 #[.pointer (some ⟨Bm, 0, none⟩)] (fun x : Cel => #[celV x]) (KeepsB B) (fun ys => ys.Perm S) (fun _ => True) S.length w := fun l J Jx W hW hJ hJx hY h0 => by
  refine (keys1_in n hn l Bm b S hnd J Jx (fun pre x W' h1 h2 => ?_) W hJ ((World.cell?_of_block (a := ⟨Bm, 0, none⟩) (hW.block Bm hBm)).trans hm) (hs.below hW hs.lt) h0).mono ?_
  · obtain ⟨fn, tmps, assign, body, hyd, hR⟩ := hY pre x W' h1 h2
    refine ⟨fn, tmps, assign, body, hyd, hR.mono ?_⟩
    rintro e V (⟨rfl, hJ', hk⟩ | ⟨rfl, hJx'⟩)
    · exact .inl ⟨rfl, hJ', hk.2⟩
    · exact .inr ⟨rfl, hJx'⟩
  · rintro e V ⟨hv, ⟨ss, hp, hJ'⟩ | ⟨pre, hJx'⟩⟩
    · exact ⟨hv, .inl ⟨ss, hp, hJ'⟩⟩
    · exact ⟨hv, .inr ⟨pre, trivial, hJx'⟩⟩
end Go.Proofs
