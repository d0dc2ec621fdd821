import Derived.Test.YtokfniicbeemdaaGreatDoorSumB
import Derived.Maps.OwnOps
import Derived.Test.YtokfniicbeemdaaGreatDoorShdH
import Derived.RangeFuncNested
import Derived.RangeFuncBound
import Derived.RangeFuncCalls
import Derived.RangeFuncLeaves
import Derived.RangeFuncBox
import Derived.Shelf.Abstract
import Derived.Shelf.RegionOpen
import Derived.WalkKit
import Derived.OwnWalkIn
import Derived.TacticsInMore
import Derived.LoopNIn
import Derived.LoopIn
import Derived.Sort.MapsRangeIn
section
/- shop.Fewest of three items: CheckItems by the machine, and a map from names to numbers. -/
namespace Go.Proofs
open Go.AM Go.RowKit Go.MapKept
set_option maxHeartbeats 4000000
set_option maxRecDepth 1000000
def itemsV : List Value := [.string ⟨#[97]⟩, .string ⟨#[112]⟩, .int .i64 3, .string ⟨#[98]⟩, .string ⟨#[113]⟩, .int .i64 4, .string ⟨#[99]⟩, .string ⟨#[112]⟩, .int .i64 2]
theorem row2_call {P : Program} (hN : NamesOk P) (hm : P.follows .mixedOrders = true) {S : Sum} (hS : SumOk P S) {k : Nat} {f : FuncId} {l : List Value} {elem : TypeId} {n : Nat} {x : Int} {r : Value} {h' : AHeap}
    (e : callS P S k f [sRow n, .int .i64 x] (hRow l elem) = some (r, h')) (hr : flat r = true) (hl : l.all flat = true) {w : World} {b o c : Nat} (hn : n ≤ c) (hb : b < w.heap.size)
    (hc : ∀ (i : Nat) (v : Value), l[i]? = some v → w.cell? ⟨b, i + o, none⟩ = some v) :
    Calls P f #[.slice (some ⟨b, o, none⟩) n c, .int .i64 x] w fun e w' => e = .returned r ∧ Below w.heap.size w w' := by
  let θ : Env := ⟨fun _ => ⟨b, o, o, 0⟩, 1⟩
  have rep : Rep P θ (hRow l elem) w := by
    refine ⟨rfl, fun i ob eo => ?_, fun i j oi oj ei ej hij => ?_, fun i _ => hb, fun g hg => absurd hg (Nat.not_lt_zero g)⟩
    · obtain ⟨rfl, rfl⟩ := hRow_get eo
      refine ⟨Nat.one_pos, hb, fun k v hk => ?_, (fun x => by cases x), (fun x => by cases x), fun x => by cases x⟩
      have hk := hRow_at hk
      exact ⟨v, hc k v hk, flat_rel (List.all_eq_true.1 hl v (List.mem_of_getElem? hk))⟩
    · obtain ⟨rfl, _⟩ := hRow_get ei
      obtain ⟨rfl, _⟩ := hRow_get ej
      exact (hij rfl).elim
  have ha : VRel θ (sRow n) (.slice (some ⟨b, o, none⟩) n c) := by
    have h1 := VRel.sliceO (θ := θ) (b := 0) (o := 0) (n := n) (c := c) Nat.one_pos hn (by show 0 + o + c * 0 = o; omega)
    have h2 : (0 + (θ.f 0).sh) = o := Nat.zero_add o
    rw [h2] at h1
    exact h1
  refine ((callS_call hN hm hS e).calls rep (.cons ha (.cons (.int _ _) .nil))).mono ?_
  rintro e' w' ⟨v', θ', rfl, hv, _, g⟩
  rw [flat_eq hr hv]
  refine ⟨rfl, g.below fun i ob eo => ?_⟩
  obtain ⟨_, rfl⟩ := hRow_get eo
  rfl
noncomputable def itemsR : Value × AHeap := ((callF Tryz.prog sumT 100000 20 [sRow 3, .int .i64 5] (hRow itemsV 73))).getD (.int .i64 0, hRow [] 0)
theorem itemsR_v : itemsR.1 = .int .i64 0 := by kernel_rfl
theorem itemsR_run : callF Tryz.prog sumT 100000 20 [sRow 3, .int .i64 5] (hRow itemsV 73) = some (.int .i64 0, itemsR.2) := by
  have h : (callF Tryz.prog sumT 100000 20 [sRow 3, .int .i64 5] (hRow itemsV 73)).isSome = true := by kernel_rfl
  obtain ⟨r, hr⟩ := Option.isSome_iff_exists.1 h
  have h2 : itemsR = r := by unfold itemsR; rw [hr]; rfl
  rw [hr, ← itemsR_v, h2]
theorem items_ok {w : World} {b o c : Nat} (hn : 3 ≤ c) (hb : b < w.heap.size) (hc : ∀ (i : Nat) (v : Value), itemsV[i]? = some v → w.cell? ⟨b, i + o, none⟩ = some v) :
    Calls Tryz.prog 20 #[.slice (some ⟨b, o, none⟩) 3 c, .int .i64 5] w fun e w' => e = .returned (.int .i64 0) ∧ Below w.heap.size w w' :=
  row2_call prog_names prog_mixed sumT_ok ((callF_eq ..).symm.trans itemsR_run) rfl rfl hn hb hc
end Go.Proofs
end

section
/- A map from names to numbers. -/
namespace Go.Proofs
open Go.RowKit Go.MapKept
set_option maxHeartbeats 4000000
set_option maxRecDepth 1000000
/-- Block b is a map with just these entries, in their order. -/
def SMap (w : World) (b : Nat) (l : List (ByteArray × Int)) : Prop := ∃ es clock, w.heap[b]? = some (.map es clock) ∧ es.toList.map (fun e => (e.key, e.val)) = l.map (fun p => (Value.string p.1, Value.int .i64 p.2)) ∧ (∀ e ∈ es.toList, e.born < clock) ∧ (es.toList.map (·.born)).Nodup
def getS (s : ByteArray) : List (ByteArray × Int) → Option Int
  | [] => none
  | p :: l => if s = p.1 then some p.2 else getS s l
def putS (s : ByteArray) (v : Int) : List (ByteArray × Int) → List (ByteArray × Int)
  | [] => [(s, v)]
  | p :: l => if s = p.1 then (s, v) :: l else p :: putS s v l
theorem find_smap (s : ByteArray) : ∀ (es : List MapEntry) (l : List (ByteArray × Int)) (i : Nat), es.map (fun e => (e.key, e.val)) = l.map (fun p => (Value.string p.1, Value.int .i64 p.2)) →
    (getS s l = none ∧ Instr.findNow .string (.string s) es i = some none ∧ ∀ v, putS s v l = l ++ [(s, v)]) ∨
    ∃ j v, getS s l = some v ∧ Instr.findNow .string (.string s) es i = some (some (i + j, .int .i64 v)) ∧ (∃ e, es[j]? = some e ∧ e.key = .string s) ∧ ∀ u, putS s u l = l.set j (s, u)
  | [], [], i, _ => .inl ⟨rfl, rfl, fun v => rfl⟩
  | e :: es, p :: l, i, h => by
    simp only [List.map_cons, List.cons.injEq, Prod.mk.injEq] at h
    obtain ⟨⟨h1, h2⟩, h3⟩ := h
    by_cases hc : s = p.1
    · right
      refine ⟨0, p.2, by simp [getS, hc], ?_, ⟨e, rfl, by rw [h1, hc]⟩, fun u => by simp [putS, hc]⟩
      have hb : (s == s) = true := by rw [beq_toListBytes]; exact beq_self_eq_true _
      rw [← hc] at h1
      simp [Instr.findNow, Instr.sameNow, h1, h2, hb]
    · have hb : (s == p.1) = false := by rw [beq_toListBytes]; exact bytes_ne hc
      rcases find_smap s es l (i + 1) h3 with ⟨g1, g2, g3⟩ | ⟨j, v, g1, g2, g3, g4⟩
      · left
        refine ⟨by simp [getS, hc, g1], ?_, fun v => by simp [putS, hc, g3]⟩
        simp [Instr.findNow, Instr.sameNow, h1, hb, g2]
      · right
        refine ⟨j + 1, v, by simp [getS, hc, g1], ?_, by simpa using g3, fun u => by simp [putS, hc, g4]⟩
        simp [Instr.findNow, Instr.sameNow, h1, hb, g2, Nat.add_assoc, Nat.add_comm 1 j]
  | [], _ :: _, _, h => by simp at h
  | _ :: _, [], _, h => by simp at h
theorem lookup_smap {w : World} {b : Nat} {l : List (ByteArray × Int)} (h : SMap w b l) (s : ByteArray) :
    (Instr.lookup 115 (.map (some b)) (.string s) false).run Tryz.prog w = .ok (.int .i64 ((getS s l).getD 0)) w := by
  obtain ⟨es, clock, hb, hm, _⟩ := h
  rcases find_smap s es.toList l 0 hm with ⟨g1, g2, _⟩ | ⟨j, v, g1, g2, _⟩
  · have hf : (Instr.findKey 9 (.string s) es.toList).run Tryz.prog w = .ok none w := run_findKey Tryz.underlying9 g2
    have hz : (zeroValue 3).run Tryz.prog w = .ok (.int .i64 0) w := by go_simp
    simp [Instr.lookup, run_underlying Tryz.underlying115, MapKept.run_getObj_map hb, check_str, hf, hz, g1, Result.andThen]
  · have hf : (Instr.findKey 9 (.string s) es.toList).run Tryz.prog w = .ok (some (0 + j, .int .i64 v)) w := run_findKey Tryz.underlying9 g2
    simp [Instr.lookup, run_underlying Tryz.underlying115, MapKept.run_getObj_map hb, check_str, hf, g1, Result.andThen]
theorem same_str (s : ByteArray) : Instr.sameBits 10000 (.string s) (.string s) = true := by
  change Instr.sameBits (9999 + 1) _ _ = _
  simp only [Instr.sameBits]
  rw [beq_toListBytes]
  exact beq_self_eq_true _
theorem update_smap {w : World} {b : Nat} {l : List (ByteArray × Int)} (h : SMap w b l) (s : ByteArray) (v : Int) :
    ∃ w', (Instr.mapUpdate 115 (.map (some b)) (.string s) (.int .i64 v)).run Tryz.prog w = .ok () w' ∧ SMap w' b (putS s v l) ∧ w.grownBy w' (some b) := by
  obtain ⟨es, clock, hb, hm, hborn, hnd⟩ := h
  rcases find_smap s es.toList l 0 hm with ⟨g1, g2, g3⟩ | ⟨j, u, g1, g2, ⟨e0, g3, g4⟩, g5⟩
  · have hf : (Instr.findKey 9 (.string s) es.toList).run Tryz.prog w = .ok none w := run_findKey Tryz.underlying9 g2
    refine ⟨_, by simp [Instr.mapUpdate, run_underlying Tryz.underlying115, MapKept.run_getObj_map hb, check_str, hf, Result.andThen, MapKept.run_setObj_map _ hb]; rfl, ?_, ?_⟩
    · refine ⟨_, _, (heap_set hb).1, ?_, ?_, ?_⟩
      · rw [g3]
        simp [hm]
      · intro e he
        rw [Array.toList_push] at he
        rcases List.mem_append.1 he with he | he
        · exact Nat.lt_succ_of_lt (hborn e he)
        · simp at he
          subst he
          exact Nat.lt_succ_self _
      · rw [Array.toList_push, List.map_append]
        refine List.nodup_append.2 ⟨hnd, by simp, ?_⟩
        rintro x hx y hy rfl
        simp at hy
        subst hy
        obtain ⟨e, he, he'⟩ := List.mem_map.1 hx
        have := hborn e he
        omega
    · exact grown_setBlockN (.inl rfl) b _
  · have hf : (Instr.findKey 9 (.string s) es.toList).run Tryz.prog w = .ok (some (0 + j, .int .i64 u)) w := run_findKey Tryz.underlying9 g2
    have hk : ((es[j]?).map (·.key)).getD (.string s) = .string s := by
      rw [← Array.getElem?_toList, g3]
      simp [g4]
    refine ⟨_, by simp [Instr.mapUpdate, run_underlying Tryz.underlying115, MapKept.run_getObj_map hb, check_str, hf, Result.andThen, Instr.keyThatStays, hk, same_str, MapKept.run_setObj_map _ hb]; rfl, ?_, ?_⟩
    · refine ⟨_, _, (heap_set hb).1, ?_, ?_⟩
      rw [g5]
      have hmod : ∀ (L : List MapEntry) (j : Nat), L[j]? = some e0 → (L.modify j fun e => { e with key := .string s, val := .int .i64 v }).map (fun e => (e.key, e.val)) = (L.map (fun e => (e.key, e.val))).set j (.string s, .int .i64 v) := fun L => by
        induction L with
        | nil => intro j h; simp at h
        | cons x L ih =>
          intro j h
          cases j with
          | zero => simp
          | succ j => simpa using ih j (by simpa using h)
      rw [Array.toList_modify, hmod _ _ g3, hm, List.map_set]
      have hbn : ∀ (L : List MapEntry) (j : Nat), (L.modify j fun e => { e with key := .string s, val := .int .i64 v }).map (·.born) = L.map (·.born) := fun L => by
        induction L with
        | nil => intro j; simp
        | cons x L ih =>
          intro j
          cases j with
          | zero => simp
          | succ j => simpa using ih j
      refine ⟨fun e he => ?_, ?_⟩
      · have h1 : e.born ∈ (es.modify j fun e => { e with key := .string s, val := .int .i64 v }).toList.map (·.born) := List.mem_map.2 ⟨e, he, rfl⟩
        rw [Array.toList_modify, hbn] at h1
        obtain ⟨e', he', h2⟩ := List.mem_map.1 h1
        rw [← h2]
        exact hborn e' he'
      · rw [Array.toList_modify, hbn]
        exact hnd
    · exact grown_setBlockN (.inl rfl) b _
theorem SMap.keep {w w' : World} {b : Nat} {l : List (ByteArray × Int)} (h : SMap w b l) (hb : w'.heap[b]? = w.heap[b]?) : SMap w' b l := by
  obtain ⟨es, clock, h1, h2⟩ := h
  exact ⟨es, clock, hb.trans h1, h2⟩
theorem SMap.lt {w : World} {b : Nat} {l : List (ByteArray × Int)} (h : SMap w b l) : b < w.heap.size := by
  obtain ⟨es, clock, h1, _⟩ := h
  exact (Array.getElem?_eq_some_iff.1 h1).1
theorem SMap.made (w : World) : SMap (w.alloc (.map #[] 0)) w.heap.size [] := ⟨#[], 0, heap_alloc_new w _, rfl, by simp, by simp⟩
end Go.Proofs
end

section
/- maps.Values of a map from names to numbers: its iterator. -/
namespace Go.Proofs
open Go.Shelf Go.RowKit Go.Lib Go.Sort
set_option maxHeartbeats 8000000
set_option maxRecDepth 1000000
attribute [local go_sem] Oper.semAt_some
def KeepsV (n : Nat) (A B : World) : Prop := Below n A B ∧ KeepsWalks A B
theorem lenV {α : Type} [DecidableEq α] : ∀ {l m : List α}, l.Nodup → (∀ x ∈ l, x ∈ m) → l.length ≤ m.length
  | [], m, _, _ => Nat.zero_le _
  | x :: l, m, hn, hs => by
    rw [List.nodup_cons] at hn
    have hx : x ∈ m := hs x List.mem_cons_self
    have ih := lenV (l := l) (m := m.erase x) hn.2 (fun y hy => (List.mem_erase_of_ne (fun e : y = x => hn.1 (by rw [← e]; exact hy))).2 (hs y (List.mem_cons_of_mem _ hy)))
    rw [List.length_erase_of_mem hx] at ih
    have := List.length_pos_of_mem hx
    simp only [List.length_cons]
    omega
theorem permV {α : Type} [DecidableEq α] : ∀ {l m : List α}, l.Nodup → (∀ x ∈ l, x ∈ m) → m.length ≤ l.length → l.Perm m
  | [], m, _, _, h => by
    have : m = [] := List.eq_nil_of_length_eq_zero (Nat.le_zero.1 h)
    rw [this]
  | x :: l, m, hn, hs, h => by
    rw [List.nodup_cons] at hn
    have hx : x ∈ m := hs x List.mem_cons_self
    have ih := permV (l := l) (m := m.erase x) hn.2 (fun y hy => (List.mem_erase_of_ne (fun e : y = x => hn.1 (by rw [← e]; exact hy))).2 (hs y (List.mem_cons_of_mem _ hy)))
      (by rw [List.length_erase_of_mem hx]; simp only [List.length_cons] at h; omega)
    exact (ih.cons x).trans (List.perm_cons_erase hx).symm
theorem run_range_smap {w : World} {b : Nat} {es : Array MapEntry} {clock : Nat} (hb : w.heap[b]? = some (.map es clock)) :
    (Instr.range 115 (.map (some b))).run Tryz.prog w = .ok (.pointer (some ⟨w.heap.size, 0, none⟩)) (w.alloc (.mapIter (some b) clock #[] clock)) := by
  unfold Instr.range
  simp only [Sem.run_bind, run_underlying Tryz.underlying115, Result.andThen, getObj, Sem.run, hb]
  rfl
/-- What a step of a range over a map does. -/
def NextV (w w3 : World) (b r clock : Nat) (es : Array MapEntry) (seen : Array Nat) (e : MapEntry) : Prop := e ∈ (leftOf es seen).toList ∧ ∃ w1, (w1 = w ∨ w1 = w.drew) ∧ w3 = ChangeMaps.setBlock w1 r (.mapIter (some b) clock (seen.push e.born) clock)
section
variable {F : Fence} {nF : Nat} {w : World} {ops : Array Oper} {rest : List Oper} {o : Oper} {a : Act} {Q : Exit → Act → World → Prop}
theorem wpListIn_range_smap (hg : o.guard = none) (m : Operand) (hop : o.op = Op.range 115 m) {b : Nat} {es : Array MapEntry} {clock : Nat} (hm : a.eval m = .map (some b)) (hb : w.heap[b]? = some (.map es clock))
    (h : wpListIn F nF Tryz.prog ops Q rest (a.put o.dst (.pointer (some ⟨w.heap.size, 0, none⟩))) (w.alloc (.mapIter (some b) clock #[] clock))) : wpListIn F nF Tryz.prog ops Q (o :: rest) a w := by
  refine wpListIn_plain hg fun K hK => ?_
  unfold Oper.wpIn
  refine ⟨by simp [Oper.about, hop], ?_⟩
  rw [Oper.semAt_plain F _ _ (by rw [hop]; intro c hc'; cases hc')]
  simp [execOp, hop, hm, run_range_smap hb, Result.andThen]
  exact hK _ _ h
theorem wpListIn_next_smap (hg : o.guard = none) (it : Operand) (hop : o.op = Op.next it false) {b r clock : Nat} {es : Array MapEntry} {seen : Array Nat} (hit : a.eval it = .pointer (some ⟨r, 0, none⟩)) (hr : w.heap[r]? = some (.mapIter (some b) clock seen clock))
    (hb : w.heap[b]? = some (.map es clock)) (hborn : ∀ e ∈ es.toList, e.born < clock)
    (hDone : (leftOf es seen).size = 0 → wpListIn F nF Tryz.prog ops Q rest (a.put o.dst (.tuple #[.bool false])) w)
    (hMore : ∀ e w3, NextV w w3 b r clock es seen e → wpListIn F nF Tryz.prog ops Q rest (a.put o.dst (.tuple #[.bool true, e.key, e.val])) w3) : wpListIn F nF Tryz.prog ops Q (o :: rest) a w := by
  refine wpListIn_plain hg fun K hK => ?_
  unfold Oper.wpIn
  refine ⟨by simp [Oper.about, hop], ?_⟩
  rw [Oper.semAt_plain F _ _ (by rw [hop]; intro c hc'; cases hc')]
  rcases run_next_at (P := Tryz.prog) w o.type r b clock clock seen es clock hr hb hborn (Nat.le_refl _) with ⟨h0, hnx⟩ | ⟨e, he, w1, hal, hnx⟩
  · simp [execOp, hop, hit, hnx, Result.andThen]
    exact hK _ _ (hDone h0)
  · simp [execOp, hop, hit, hnx, Result.andThen]
    exact hK _ _ (hMore e _ ⟨he, w1, hal, rfl⟩)
end
/-- How many entries are left of a range over a map. -/
def leftV (r n : Nat) (W : World) : Nat := match W.heap[r]? with
  | some (.mapIter _ _ seen _) => n - seen.size
  | _ => 0
theorem values1_in (n : Nat) (hn : 1 ≤ n) (l Bm b : Nat) (S : List (ByteArray × Int)) (J Jx : List Int → World → Prop)
    (hY : ∀ pre x W, J pre W → pre.length < S.length → YieldAt Fence.wide (n - 1) Tryz.prog l #[.int .i64 x] W fun e W' =>
      (e = .returned (.bool true) ∧ J (pre ++ [x]) W' ∧ KeepsWalks W W') ∨ (e = .returned (.bool false) ∧ Jx (pre ++ [x]) W'))
    (W : World) (hJ : AbidesFrom W.heap.size J) (hm : W.cell? ⟨Bm, 0, none⟩ = some (.map (some b))) (hs : SMap W b S) (h0 : J [] W) :
    CallsIn Fence.wide n Tryz.prog 116 #[.func (.yield l) #[] #[], .pointer (some ⟨Bm, 0, none⟩)] W fun e W' => (∃ v, e = .returned v) ∧ ((∃ ss : List Int, ss.Perm (S.map (·.2)) ∧ J ss W') ∨ (∃ pre, Jx pre W')) := by
  obtain ⟨es, clock, hb, hmap, hborn, hbnd⟩ := hs
  have hbl : b < W.heap.size := (Array.getElem?_eq_some_iff.1 hb).1
  have hvals : es.toList.map (·.val) = S.map (fun p => Value.int .i64 p.2) := by
    have := congrArg (List.map Prod.snd) hmap
    simpa [List.map_map, Function.comp_def] using this
  obtain ⟨kc, hkc⟩ : ∃ kc : MapEntry → Int, ∀ e, kc e = (match e.val with | .int .i64 x => x | _ => 0) := ⟨fun e => match e.val with | .int .i64 x => x | _ => 0, fun _ => rfl⟩
  have hk1 : ∀ e ∈ es.toList, e.val = .int .i64 (kc e) := fun e he => by
    have h : e.val ∈ S.map (fun p => Value.int .i64 p.2) := by rw [← hvals]; exact List.mem_map.2 ⟨e, he, rfl⟩
    obtain ⟨c, _, hc⟩ := List.mem_map.1 h
    rw [hkc, ← hc]
  have hk2 : es.toList.map kc = S.map (·.2) := by
    have h : es.toList.map kc = (es.toList.map (·.val)).map (fun v => match v with | .int .i64 x => x | _ => 0) := by
      rw [List.map_map]
      exact List.map_congr_left fun e he => by rw [hkc]; rfl
    rw [h, hvals, List.map_map]
    rfl
  have hsz : es.size = S.length := by have := congrArg List.length hk2; simpa using this
  clear hkc hvals hmap
  refine callsIn_of_wp Tryz.func116 rfl trivial ?_ rfl
  simp only [Tryz.ntmps116, List.size_toArray, List.length_cons, List.length_nil, Nat.reduceAdd, Nat.reduceSub, Array.replicate_succ, Array.replicate_zero, List.push_toArray, List.append_toArray, List.nil_append, List.cons_append]
  gi_wp2_with (first
    | (gi_at_range; refine wpListIn_range_smap rfl _ rfl rfl hb ?_)
    | gi_in)
  have hr0 : (W.alloc (.mapIter (some b) clock #[] clock)).heap[W.heap.size]? = some (.mapIter (some b) clock #[] clock) := heap_alloc_new _ _
  have hb0 : (W.alloc (.mapIter (some b) clock #[] clock)).heap[b]? = some (.map es clock) := ((MapKept.heap_alloc _ _).2 b hbl).trans hb
  have hJ0 := hJ [] W (W.alloc (.mapIter (some b) clock #[] clock)) none h0 (World.grownBy_alloc _ _ none) (fun r e => by cases e)
  go_frame
  gi_loopw [4] (fun _ wr => ∃ vis : List MapEntry, wr.heap[W.heap.size]? = some (.mapIter (some b) clock (vis.map (·.born)).toArray clock) ∧ wr.heap[b]? = some (.map es clock) ∧ (∀ e ∈ vis, e ∈ es.toList) ∧ (vis.map (·.born)).Nodup ∧ J (vis.map kc) wr)
    (fun _ wr => leftV W.heap.size es.size wr)
  case atStart => exact ⟨[], hr0, hb0, (fun e h => by cases h), List.nodup_nil, hJ0⟩
  case round =>
    obtain ⟨vis, hr, hbw, hsub, hvd, hJv⟩ := hrel
    clear hr0 hb0 hJ0 h0 hm
    gi_wp2_with (first
      | (gi_at_next; refine wpListIn_next_smap rfl _ rfl rfl hr hbw hborn ?_ ?_)
      | gi_in)
    · intro hl0
      have hall : ∀ x ∈ es.toList, x.born ∈ vis.map (·.born) := fun x hx => by
        have he : leftOf es (vis.map (·.born)).toArray = #[] := hl0
        have := (Array.filter_eq_empty_iff.1 he) x (by simpa using hx)
        simpa using this
      have hlen' : es.toList.length ≤ vis.length := by
        have h2 := lenV hbnd (m := vis.map (·.born)) (fun x hx => by
          obtain ⟨y, hy, rfl⟩ := List.mem_map.1 hx
          exact hall y hy)
        simpa using h2
      have hvn : vis.Nodup := by
        rw [List.Nodup, List.pairwise_map] at hvd
        exact hvd.imp fun {a c} hne e => hne (by rw [e])
      have hperm : (vis.map kc).Perm (S.map (·.2)) := by
        rw [← hk2]
        haveI : DecidableEq MapEntry := fun _ _ => Classical.propDecidable _
        exact (permV hvn hsub hlen').map kc
      clear hl0 hall hlen' hvn
      gi_wp2
      go_end0
      exact ⟨⟨_, rfl⟩, .inl ⟨_, hperm, hJv⟩⟩
    · rintro e w3 ⟨he, w2, hal, hw3⟩
      have hg3 : wr.grownBy w3 (some W.heap.size) := by rw [hw3]; exact grown_setBlockN hal _ _
      have hrlt : W.heap.size < wr.heap.size := (Array.getElem?_eq_some_iff.1 hr).1
      have hr3 : w3.heap[W.heap.size]? = some (.mapIter (some b) clock ((vis.map (·.born)).toArray.push e.born) clock) := by
        rw [hw3]
        have : W.heap.size < w2.heap.size := by rcases hal with rfl | rfl <;> exact hrlt
        simp [ChangeMaps.setBlock, this]
      have hbr : b ≠ W.heap.size := by omega
      have hb3 : w3.heap[b]? = some (.map es clock) := by
        rw [hg3.block b (by omega) (by simpa using hbr)]; exact hbw
      have hein : e ∈ es.toList := by
        have := he
        simp [leftOf] at this
        simpa using this.1
      have hent := run_entry_at (P := Tryz.prog) w3 W.heap.size b clock (vis.map (·.born)).toArray es clock e hr3 hb3 hein hbnd
      have hke := hk1 e hein
      have hnew : e.born ∉ vis.map (·.born) := by
        have := he
        simp [leftOf] at this
        simpa using this.2
      have hvd' : ((vis ++ [e]).map (·.born)).Nodup := by
        rw [List.map_append, List.nodup_append]
        refine ⟨hvd, by simp, fun a ha b hb' => ?_⟩
        simp only [List.map_cons, List.map_nil, List.mem_singleton] at hb'
        subst hb'
        intro h
        subst h
        exact hnew ha
      have hsub' : ∀ x ∈ vis ++ [e], x ∈ es.toList := fun x hx => by
        rcases List.mem_append.1 hx with h | h
        · exact hsub x h
        · simp only [List.mem_singleton] at h; subst h; exact hein
      have hroom : vis.length + 1 ≤ es.size := by
        have := lenV hvd' (m := es.toList.map (·.born)) (fun x hx => by
          obtain ⟨y, hy, rfl⟩ := List.mem_map.1 hx
          exact List.mem_map.2 ⟨y, hsub' y hy, rfl⟩)
        simpa using this
      have hJ3 : J (vis.map kc) w3 := hJ _ wr w3 (some W.heap.size) hJv hg3 (fun r e' => by cases e'; exact ⟨Nat.le_refl _, _, hr, rfl⟩)
      obtain ⟨c, hc⟩ : ∃ c, kc e = c := ⟨_, rfl⟩
      rw [hc] at hke
      rw [hke] at hent ⊢
      obtain ⟨ky, hky⟩ : ∃ ky, e.key = ky := ⟨_, rfl⟩
      rw [hky] at hent ⊢
      obtain ⟨fn, tmps, assign, body, hyd, hR⟩ := hY (vis.map kc) c _ hJ3 (by simp; omega)
      have hleft : leftV W.heap.size es.size wr = es.size - vis.length := by
        unfold leftV
        rw [hr]
        simp
      clear hal hw3 hg3 he hke hJ3 hJv hr hbw
      gi_wp2
      refine hR.mono ?_
      rintro e' W3 (⟨rfl, hJ5, hk5⟩ | ⟨rfl, hJx5⟩)
      · have hr5 := hk5.same _ _ hr3 rfl
        have hb5 := hk5.same _ _ hb3 rfl
        clear hyd hR hent
        gi_wp2
        go_roundw
        case rel => exact ⟨vis ++ [e], by rw [hr5]; simp, hb5, hsub', hvd', by rw [List.map_append, List.map_cons, List.map_nil, hc]; exact hJ5⟩
        case measure =>
          rw [hleft]
          unfold leftV
          rw [hr5]
          simp
          omega
      · clear hyd hR hent
        gi_wp2
        refine bodyPost_ret (results_none rfl _ _ _) rfl ?_
        exact ⟨⟨_, rfl⟩, .inr ⟨_, hJx5⟩⟩
theorem values_stops (n : Nat) (hn : 1 ≤ n) (Bm b : Nat) (S : List (ByteArray × Int)) (w : World) (B : Nat) (hm : w.cell? ⟨Bm, 0, none⟩ = some (.map (some b))) (hBm : Bm < w.heap.size) (hs : SMap w b S) :
    SeqStopsK Fence.wide n Tryz.prog 116 #[.pointer (some ⟨Bm, 0, none⟩)] (fun x : Int => #[.int .i64 x]) (KeepsV B) (fun ys => ys.Perm (S.map (·.2))) (fun _ => True) S.length w := fun l J Jx W hW hJ hJx hY h0 => by
  refine (values1_in n hn l Bm b S J Jx (fun pre x W' h1 h2 => ?_) W hJ ((World.cell?_of_block (a := ⟨Bm, 0, none⟩) (hW.block Bm hBm)).trans hm) (hs.keep (hW.block b hs.lt)) h0).mono ?_
  · obtain ⟨fn, tmps, assign, body, hyd, hR⟩ := hY pre x W' h1 h2
    refine ⟨fn, tmps, assign, body, hyd, hR.mono ?_⟩
    rintro e V (⟨rfl, hJ', hk⟩ | ⟨rfl, hJx'⟩)
    · exact .inl ⟨rfl, hJ', hk.2⟩
    · exact .inr ⟨rfl, hJx'⟩
  · rintro e V ⟨hv, ⟨ss, hp, hJ'⟩ | ⟨pre, hJx'⟩⟩
    · exact ⟨hv, .inl ⟨ss, hp, hJ'⟩⟩
    · exact ⟨hv, .inr ⟨pre, trivial, hJx'⟩⟩
theorem enters_values : ∀ args w, (callFunc 116 args).run Tryz.prog w = .ok (.enter 116 args) w := enters_of Tryz.func116 (by kernel_rfl) rfl
theorem mapsValues_ok (m : Nat) (w : World) :
    Calls Tryz.prog 58 #[.map (some m)] w fun e w' => e = .returned (.func (.func 116) #[] #[.pointer (some ⟨w.heap.size, 0, none⟩)]) ∧ w' = w.alloc (.cells #[.map (some m)] 115) := by
  go_enter Tryz.func58, Tryz.ntmps58
  go_wp2
  go_ret
  exact ⟨rfl, rfl⟩
end Go.Proofs
end
