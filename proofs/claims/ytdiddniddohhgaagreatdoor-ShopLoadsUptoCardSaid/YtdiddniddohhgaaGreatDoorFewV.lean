/- maps.Values of a map from names to numbers: its iterator. -/
import Derived.Test.YtdiddniddohhgaaGreatDoorFewB
import Derived.RangeFuncNested
import Derived.RangeFuncBound
import Derived.RangeFuncCalls
import Derived.RangeFuncLeaves
import Derived.RangeFuncBox
import Derived.Shelf.Abstract
import Derived.Shelf.RegionOpen
import Derived.WalkKit
import Derived.OwnWalkIn
import Derived.TacticsInMore
import Derived.LoopNIn
import Derived.LoopIn
import Derived.Sort.MapsRangeIn
namespace Go.Proofs
open Go.Shelf Go.RowKit Go.Lib Go.Sort
set_option maxHeartbeats 8000000
set_option maxRecDepth 1000000
attribute [local go_sem] Oper.semAt_some
def KeepsV (n : Nat) (A B : World) : Prop := Below n A B ∧ KeepsWalks A B
theorem lenV {α : Type} [DecidableEq α] : ∀ {l m : List α}, l.Nodup → (∀ x ∈ l, x ∈ m) → l.length ≤ m.length
  | [], m, _, _ => Nat.zero_le _
  | x :: l, m, hn, hs => by
    rw [List.nodup_cons] at hn
    have hx : x ∈ m := hs x List.mem_cons_self
    have ih := lenV (l := l) (m := m.erase x) hn.2 (fun y hy => (List.mem_erase_of_ne (fun e : y = x => hn.1 (by rw [← e]; exact hy))).2 (hs y (List.mem_cons_of_mem _ hy)))
    rw [List.length_erase_of_mem hx] at ih
    have := List.length_pos_of_mem hx
    simp only [List.length_cons]
    omega
theorem permV {α : Type} [DecidableEq α] : ∀ {l m : List α}, l.Nodup → (∀ x ∈ l, x ∈ m) → m.length ≤ l.length → l.Perm m
  | [], m, _, _, h => by
    have : m = [] := List.eq_nil_of_length_eq_zero (Nat.le_zero.1 h)
    rw [this]
  | x :: l, m, hn, hs, h => by
    rw [List.nodup_cons] at hn
    have hx : x ∈ m := hs x List.mem_cons_self
    have ih := permV (l := l) (m := m.erase x) hn.2 (fun y hy => (List.mem_erase_of_ne (fun e : y = x => hn.1 (by rw [← e]; exact hy))).2 (hs y (List.mem_cons_of_mem _ hy)))
      (by rw [List.length_erase_of_mem hx]; simp only [List.length_cons] at h; omega)
    exact (ih.cons x).trans (List.perm_cons_erase hx).symm
theorem run_range_smap {w : World} {b : Nat} {es : Array MapEntry} {clock : Nat} (hb : w.heap[b]? = some (.map es clock)) :
    (Instr.range 99 (.map (some b))).run Tryz.prog w = .ok (.pointer (some ⟨w.heap.size, 0, none⟩)) (w.alloc (.mapIter (some b) clock #[] clock)) := by
  unfold Instr.range
  simp only [Sem.run_bind, run_underlying Tryz.underlying99, Result.andThen, getObj, Sem.run, hb]
  rfl
/-- What a step of a range over a map does. -/
def NextV (w w3 : World) (b r clock : Nat) (es : Array MapEntry) (seen : Array Nat) (e : MapEntry) : Prop := e ∈ (leftOf es seen).toList ∧ ∃ w1, (w1 = w ∨ w1 = w.drew) ∧ w3 = ChangeMaps.setBlock w1 r (.mapIter (some b) clock (seen.push e.born) clock)
section
variable {F : Fence} {nF : Nat} {w : World} {ops : Array Oper} {rest : List Oper} {o : Oper} {a : Act} {Q : Exit → Act → World → Prop}
theorem wpListIn_range_smap (hg : o.guard = none) (m : Operand) (hop : o.op = Op.range 99 m) {b : Nat} {es : Array MapEntry} {clock : Nat} (hm : a.eval m = .map (some b)) (hb : w.heap[b]? = some (.map es clock))
    (h : wpListIn F nF Tryz.prog ops Q rest (a.put o.dst (.pointer (some ⟨w.heap.size, 0, none⟩))) (w.alloc (.mapIter (some b) clock #[] clock))) : wpListIn F nF Tryz.prog ops Q (o :: rest) a w := by
  refine wpListIn_plain hg fun K hK => ?_
  unfold Oper.wpIn
  refine ⟨by simp [Oper.about, hop], ?_⟩
  rw [Oper.semAt_plain F _ _ (by rw [hop]; intro c hc'; cases hc')]
  simp [execOp, hop, hm, run_range_smap hb, Result.andThen]
  exact hK _ _ h
theorem wpListIn_next_smap (hg : o.guard = none) (it : Operand) (hop : o.op = Op.next it false) {b r clock : Nat} {es : Array MapEntry} {seen : Array Nat} (hit : a.eval it = .pointer (some ⟨r, 0, none⟩)) (hr : w.heap[r]? = some (.mapIter (some b) clock seen clock))
    (hb : w.heap[b]? = some (.map es clock)) (hborn : ∀ e ∈ es.toList, e.born < clock)
    (hDone : (leftOf es seen).size = 0 → wpListIn F nF Tryz.prog ops Q rest (a.put o.dst (.tuple #[.bool false])) w)
    (hMore : ∀ e w3, NextV w w3 b r clock es seen e → wpListIn F nF Tryz.prog ops Q rest (a.put o.dst (.tuple #[.bool true, e.key, e.val])) w3) : wpListIn F nF Tryz.prog ops Q (o :: rest) a w := by
  refine wpListIn_plain hg fun K hK => ?_
  unfold Oper.wpIn
  refine ⟨by simp [Oper.about, hop], ?_⟩
  rw [Oper.semAt_plain F _ _ (by rw [hop]; intro c hc'; cases hc')]
  rcases run_next_at (P := Tryz.prog) w o.type r b clock clock seen es clock hr hb hborn (Nat.le_refl _) with ⟨h0, hnx⟩ | ⟨e, he, w1, hal, hnx⟩
  · simp [execOp, hop, hit, hnx, Result.andThen]
    exact hK _ _ (hDone h0)
  · simp [execOp, hop, hit, hnx, Result.andThen]
    exact hK _ _ (hMore e _ ⟨he, w1, hal, rfl⟩)
end
/-- How many entries are left of a range over a map. -/
def leftV (r n : Nat) (W : World) : Nat := match W.heap[r]? with
  | some (.mapIter _ _ seen _) => n - seen.size
  | _ => 0
theorem values1_in (n : Nat) (hn : 1 ≤ n) (l Bm b : Nat) (S : List (ByteArray × Int)) (J Jx : List Int → World → Prop)
    (hY : ∀ pre x W, J pre W → pre.length < S.length → YieldAt Fence.wide (n - 1) Tryz.prog l #[.int .i64 x] W fun e W' =>
      (e = .returned (.bool true) ∧ J (pre ++ [x]) W' ∧ KeepsWalks W W') ∨ (e = .returned (.bool false) ∧ Jx (pre ++ [x]) W'))
    (W : World) (hJ : AbidesFrom W.heap.size J) (hm : W.cell? ⟨Bm, 0, none⟩ = some (.map (some b))) (hs : SMap W b S) (h0 : J [] W) :
    CallsIn Fence.wide n Tryz.prog 97 #[.func (.yield l) #[] #[], .pointer (some ⟨Bm, 0, none⟩)] W fun e W' => (∃ v, e = .returned v) ∧ ((∃ ss : List Int, ss.Perm (S.map (·.2)) ∧ J ss W') ∨ (∃ pre, Jx pre W')) := by
  obtain ⟨es, clock, hb, hmap, hborn, hbnd⟩ := hs
  have hbl : b < W.heap.size := (Array.getElem?_eq_some_iff.1 hb).1
  have hvals : es.toList.map (·.val) = S.map (fun p => Value.int .i64 p.2) := by
    have := congrArg (List.map Prod.snd) hmap
    simpa [List.map_map, Function.comp_def] using this
  obtain ⟨kc, hkc⟩ : ∃ kc : MapEntry → Int, ∀ e, kc e = (match e.val with | .int .i64 x => x | _ => 0) := ⟨fun e => match e.val with | .int .i64 x => x | _ => 0, fun _ => rfl⟩
  have hk1 : ∀ e ∈ es.toList, e.val = .int .i64 (kc e) := fun e he => by
    have h : e.val ∈ S.map (fun p => Value.int .i64 p.2) := by rw [← hvals]; exact List.mem_map.2 ⟨e, he, rfl⟩
    obtain ⟨c, _, hc⟩ := List.mem_map.1 h
    rw [hkc, ← hc]
  have hk2 : es.toList.map kc = S.map (·.2) := by
    have h : es.toList.map kc = (es.toList.map (·.val)).map (fun v => match v with | .int .i64 x => x | _ => 0) := by
      rw [List.map_map]
      exact List.map_congr_left fun e he => by rw [hkc]; rfl
    rw [h, hvals, List.map_map]
    rfl
  have hsz : es.size = S.length := by have := congrArg List.length hk2; simpa using this
  clear hkc hvals hmap
  refine callsIn_of_wp Tryz.func97 rfl trivial ?_ rfl
  simp only [Tryz.ntmps97, List.size_toArray, List.length_cons, List.length_nil, Nat.reduceAdd, Nat.reduceSub, Array.replicate_succ, Array.replicate_zero, List.push_toArray, List.append_toArray, List.nil_append, List.cons_append]
  gi_wp2_with (first
    | (gi_at_range; refine wpListIn_range_smap rfl _ rfl rfl hb ?_)
    | gi_in)
  have hr0 : (W.alloc (.mapIter (some b) clock #[] clock)).heap[W.heap.size]? = some (.mapIter (some b) clock #[] clock) := heap_alloc_new _ _
  have hb0 : (W.alloc (.mapIter (some b) clock #[] clock)).heap[b]? = some (.map es clock) := ((MapKept.heap_alloc _ _).2 b hbl).trans hb
  have hJ0 := hJ [] W (W.alloc (.mapIter (some b) clock #[] clock)) none h0 (World.grownBy_alloc _ _ none) (fun r e => by cases e)
  go_frame
  gi_loopw [4] (fun _ wr => ∃ vis : List MapEntry, wr.heap[W.heap.size]? = some (.mapIter (some b) clock (vis.map (·.born)).toArray clock) ∧ wr.heap[b]? = some (.map es clock) ∧ (∀ e ∈ vis, e ∈ es.toList) ∧ (vis.map (·.born)).Nodup ∧ J (vis.map kc) wr)
    (fun _ wr => leftV W.heap.size es.size wr)
  case atStart => exact ⟨[], hr0, hb0, (fun e h => by cases h), List.nodup_nil, hJ0⟩
  case round =>
    obtain ⟨vis, hr, hbw, hsub, hvd, hJv⟩ := hrel
    clear hr0 hb0 hJ0 h0 hm
    gi_wp2_with (first
      | (gi_at_next; refine wpListIn_next_smap rfl _ rfl rfl hr hbw hborn ?_ ?_)
      | gi_in)
    · intro hl0
      have hall : ∀ x ∈ es.toList, x.born ∈ vis.map (·.born) := fun x hx => by
        have he : leftOf es (vis.map (·.born)).toArray = #[] := hl0
        have := (Array.filter_eq_empty_iff.1 he) x (by simpa using hx)
        simpa using this
      have hlen' : es.toList.length ≤ vis.length := by
        have h2 := lenV hbnd (m := vis.map (·.born)) (fun x hx => by
          obtain ⟨y, hy, rfl⟩ := List.mem_map.1 hx
          exact hall y hy)
        simpa using h2
      have hvn : vis.Nodup := by
        rw [List.Nodup, List.pairwise_map] at hvd
        exact hvd.imp fun {a c} hne e => hne (by rw [e])
      have hperm : (vis.map kc).Perm (S.map (·.2)) := by
        rw [← hk2]
        haveI : DecidableEq MapEntry := fun _ _ => Classical.propDecidable _
        exact (permV hvn hsub hlen').map kc
      clear hl0 hall hlen' hvn
      gi_wp2
      go_end0
      exact ⟨⟨_, rfl⟩, .inl ⟨_, hperm, hJv⟩⟩
    · rintro e w3 ⟨he, w2, hal, hw3⟩
      have hg3 : wr.grownBy w3 (some W.heap.size) := by rw [hw3]; exact grown_setBlockN hal _ _
      have hrlt : W.heap.size < wr.heap.size := (Array.getElem?_eq_some_iff.1 hr).1
      have hr3 : w3.heap[W.heap.size]? = some (.mapIter (some b) clock ((vis.map (·.born)).toArray.push e.born) clock) := by
        rw [hw3]
        have : W.heap.size < w2.heap.size := by rcases hal with rfl | rfl <;> exact hrlt
        simp [ChangeMaps.setBlock, this]
      have hbr : b ≠ W.heap.size := by omega
      have hb3 : w3.heap[b]? = some (.map es clock) := by
        rw [hg3.block b (by omega) (by simpa using hbr)]; exact hbw
      have hein : e ∈ es.toList := by
        have := he
        simp [leftOf] at this
        simpa using this.1
      have hent := run_entry_at (P := Tryz.prog) w3 W.heap.size b clock (vis.map (·.born)).toArray es clock e hr3 hb3 hein hbnd
      have hke := hk1 e hein
      have hnew : e.born ∉ vis.map (·.born) := by
        have := he
        simp [leftOf] at this
        simpa using this.2
      have hvd' : ((vis ++ [e]).map (·.born)).Nodup := by
        rw [List.map_append, List.nodup_append]
        refine ⟨hvd, by simp, fun a ha b hb' => ?_⟩
        simp only [List.map_cons, List.map_nil, List.mem_singleton] at hb'
        subst hb'
        intro h
        subst h
        exact hnew ha
      have hsub' : ∀ x ∈ vis ++ [e], x ∈ es.toList := fun x hx => by
        rcases List.mem_append.1 hx with h | h
        · exact hsub x h
        · simp only [List.mem_singleton] at h; subst h; exact hein
      have hroom : vis.length + 1 ≤ es.size := by
        have := lenV hvd' (m := es.toList.map (·.born)) (fun x hx => by
          obtain ⟨y, hy, rfl⟩ := List.mem_map.1 hx
          exact List.mem_map.2 ⟨y, hsub' y hy, rfl⟩)
        simpa using this
      have hJ3 : J (vis.map kc) w3 := hJ _ wr w3 (some W.heap.size) hJv hg3 (fun r e' => by cases e'; exact ⟨Nat.le_refl _, _, hr, rfl⟩)
      obtain ⟨c, hc⟩ : ∃ c, kc e = c := ⟨_, rfl⟩
      rw [hc] at hke
      rw [hke] at hent ⊢
      obtain ⟨ky, hky⟩ : ∃ ky, e.key = ky := ⟨_, rfl⟩
      rw [hky] at hent ⊢
      obtain ⟨fn, tmps, assign, body, hyd, hR⟩ := hY (vis.map kc) c _ hJ3 (by simp; omega)
      have hleft : leftV W.heap.size es.size wr = es.size - vis.length := by
        unfold leftV
        rw [hr]
        simp
      clear hal hw3 hg3 he hke hJ3 hJv hr hbw
      gi_wp2
      refine hR.mono ?_
      rintro e' W3 (⟨rfl, hJ5, hk5⟩ | ⟨rfl, hJx5⟩)
      · have hr5 := hk5.same _ _ hr3 rfl
        have hb5 := hk5.same _ _ hb3 rfl
        clear hyd hR hent
        gi_wp2
        go_roundw
        case rel => exact ⟨vis ++ [e], by rw [hr5]; simp, hb5, hsub', hvd', by rw [List.map_append, List.map_cons, List.map_nil, hc]; exact hJ5⟩
        case measure =>
          rw [hleft]
          unfold leftV
          rw [hr5]
          simp
          omega
      · clear hyd hR hent
        gi_wp2
        refine bodyPost_ret (results_none rfl _ _ _) rfl ?_
        exact ⟨⟨_, rfl⟩, .inr ⟨_, hJx5⟩⟩
theorem values_stops (n : Nat) (hn : 1 ≤ n) (Bm b : Nat) (S : List (ByteArray × Int)) (w : World) (B : Nat) (hm : w.cell? ⟨Bm, 0, none⟩ = some (.map (some b))) (hBm : Bm < w.heap.size) (hs : SMap w b S) :
    SeqStopsK Fence.wide n Tryz.prog 97 #[.pointer (some ⟨Bm, 0, none⟩)] (fun x : Int => #[.int .i64 x]) (KeepsV B) (fun ys => ys.Perm (S.map (·.2))) (fun _ => True) S.length w := fun l J Jx W hW hJ hJx hY h0 => by
  refine (values1_in n hn l Bm b S J Jx (fun pre x W' h1 h2 => ?_) W hJ ((World.cell?_of_block (a := ⟨Bm, 0, none⟩) (hW.block Bm hBm)).trans hm) (hs.keep (hW.block b hs.lt)) h0).mono ?_
  · obtain ⟨fn, tmps, assign, body, hyd, hR⟩ := hY pre x W' h1 h2
    refine ⟨fn, tmps, assign, body, hyd, hR.mono ?_⟩
    rintro e V (⟨rfl, hJ', hk⟩ | ⟨rfl, hJx'⟩)
    · exact .inl ⟨rfl, hJ', hk.2⟩
    · exact .inr ⟨rfl, hJx'⟩
  · rintro e V ⟨hv, ⟨ss, hp, hJ'⟩ | ⟨pre, hJx'⟩⟩
    · exact ⟨hv, .inl ⟨ss, hp, hJ'⟩⟩
    · exact ⟨hv, .inr ⟨pre, trivial, hJx'⟩⟩
theorem enters_values : ∀ args w, (callFunc 97 args).run Tryz.prog w = .ok (.enter 97 args) w := enters_of Tryz.func97 (by kernel_rfl) rfl
theorem mapsValues_ok (m : Nat) (w : World) :
    Calls Tryz.prog 43 #[.map (some m)] w fun e w' => e = .returned (.func (.func 97) #[] #[.pointer (some ⟨w.heap.size, 0, none⟩)]) ∧ w' = w.alloc (.cells #[.map (some m)] 99) := by
  go_enter Tryz.func43, Tryz.ntmps43
  go_wp2
  go_ret
  exact ⟨rfl, rfl⟩
end Go.Proofs
