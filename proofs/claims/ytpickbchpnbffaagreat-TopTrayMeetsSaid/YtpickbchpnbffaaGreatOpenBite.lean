import Derived.Test.YtpickbchpnbffaaGreatClsB
import Derived.Test.YtpickbchpnbffaaGreatTurn
import Derived.Test.YtpickbchpnbffaaGreatAmE
import Derived.Test.YtpickbchpnbffaaGreatInsB
import Derived.Test.YtpickbchpnbffaaGreatRows
import Derived.Deep.Slices
import Derived.Deep.Fields
import Derived.ChangeSame
import Derived.OpenShut
section
/- The fixed example of chapter 4: heights of one cell as a summary for the machine. -/
namespace Go.Proofs
open Go.AM Go.RowKit
set_option maxRecDepth 1000000
/-- A second new object in a world that is reached. -/
theorem rep_newAt2 {P : Program} {θ θ1 : Env} {h h1 : AHeap} {w w' : World} (r : Rep P θ1 h1 w') (g : Goes θ h w θ1 h1 w') {o : AObj} {th : Th} (hb : w.heap.size ≤ th.blk) (hl : th.blk < w'.heap.size)
    (hne : ∀ i oi, h1.get i = some oi → (θ1.f i).blk ≠ th.blk) (ho : ORel P (θ1.ext th) th o w') : Rep P (θ1.ext th) (h1.new o) w' ∧ Goes θ h w (θ1.ext th) (h1.new o) w' := by
  refine ⟨⟨by rw [AHeap.next_new, ← r.nx]; rfl, ?_, ?_, r.low_ext hl (fun b hb => hb), r.glob_ext⟩, ⟨g.le.trans (Env.le_ext _ _), g.os, g.tape, g.output, g.size, g.frame, ?_⟩⟩
  · intro i oi e
    rw [AHeap.get_new] at e
    by_cases hi : i = h1.next
    · subst hi
      rw [if_pos rfl] at e
      obtain rfl : o = oi := by simpa using e
      rw [← r.nx, Env.ext_new]
      exact ⟨by rw [AHeap.next_new, ← r.nx]; exact Nat.lt_succ_self _, hl, ho⟩
    · rw [if_neg hi] at e
      obtain ⟨a, b, c⟩ := r.obj i oi e
      rw [Env.ext_old _ _ (r.lt e)]
      exact ⟨Nat.lt_succ_of_lt a, b, c.mono (Env.le_ext _ _)⟩
  · intro i j oi oj ei ej hij hw
    rw [AHeap.get_new] at ei ej
    by_cases hi : i = h1.next
    · subst hi
      rw [if_neg (Ne.symm hij)] at ej
      rw [Env.ext_old _ _ (r.lt ej), ← r.nx, Env.ext_new]
      exact (hne j oj ej).symm
    · rw [if_neg hi] at ei
      rw [Env.ext_old _ _ (r.lt ei)]
      by_cases hj : j = h1.next
      · subst hj
        rw [← r.nx, Env.ext_new]
        exact hne i oi ei
      · rw [if_neg hj] at ej
        rw [Env.ext_old _ _ (r.lt ej)]
        exact r.inj i j oi oj ei ej hij hw
  · rintro b hbl ⟨i, oi, e, hw, rfl⟩
    rw [AHeap.get_new] at e
    by_cases hi : i = h1.next
    · subst hi
      rw [← r.nx, Env.ext_new] at hbl
      omega
    · rw [if_neg hi] at e
      rw [Env.ext_old _ _ (r.lt e)] at hbl ⊢
      exact g.own _ hbl ⟨i, oi, e, hw, rfl⟩
noncomputable def isI (v : Option Value) (n : Int) : Bool := match v with
  | some (.int .i64 m) => eqI m n
  | _ => false
theorem isI_spec {v : Option Value} {n : Int} (h : isI v n = true) : v = some (.int .i64 n) := by
  unfold isI at h
  split at h
  · rw [eqI_eq] at h
    rw [of_decide_eq_true h]
  · cases h
noncomputable def rowO : AObj := .cells { n := 1, z := [], t := Tr.nil.setAll 0 [.int .i64 4], elem := 3, opn := true, ro := true }
noncomputable def mapO (b : Nat) : AObj := .map [{ key := pairV 0 0, val := .slice (some ⟨b, 0, none⟩) 1 OPEN, born := 0 }] 1
noncomputable def sumHts (F : FuncId) : Sum := fun f args h => Bool.rec none (match args with
  | [.slice (some ⟨b, o, none⟩) n _] => match h.get b with
    | some (.cells c) => Bool.rec none (some (.map (some (h.next + 1)), (h.new rowO).new (mapO h.next))) (Nat.beq n 1 && (isI (c.at o) 0 && (isI (c.at (o + 1)) 0 && isI (c.at (o + 2)) 4)))
    | _ => none
  | _ => none) (Nat.beq f F)
theorem sumHts_ok : SumOk Tryz.prog (sumHts 81) := by
  intro f args h v h' e
  unfold sumHts at e
  cases hf : Nat.beq f 81 with
  | false => rw [hf] at e; cases e
  | true =>
    obtain rfl := Nat.eq_of_beq_eq_true hf
    rw [hf] at e
    simp only at e
    split at e
    · rename_i b o n c0
      split at e
      · rename_i c hg
        cases hc : (Nat.beq n 1 && (isI (c.at o) 0 && (isI (c.at (o + 1)) 0 && isI (c.at (o + 2)) 4))) with
        | false => rw [hc] at e; cases e
        | true =>
          rw [hc] at e
          simp only [Bool.and_eq_true] at hc
          obtain ⟨q0, q1, q2, q3⟩ := hc
          obtain rfl := Nat.eq_of_beq_eq_true q0
          simp only [Option.some.injEq, Prod.mk.injEq] at e
          obtain ⟨rfl, rfl⟩ := e
          refine ⟨⟨_, _, Tryz.func81, rfl⟩, fun θ w args' k r ha => ?_⟩
          obtain ⟨x', rfl, hx⟩ := l1_inv ha
          obtain ⟨-, hbl, hor⟩ := r.obj b _ hg
          have hcr : CRel Tryz.prog θ (θ.f b) c w := hor
          obtain ⟨v0, e0, r0⟩ := hcr.at_ o _ (isI_spec q1)
          obtain ⟨v1, e1, r1⟩ := hcr.at_ (o + 1) _ (isI_spec q2)
          obtain ⟨v2, e2, r2⟩ := hcr.at_ (o + 2) _ (isI_spec q3)
          cases r0
          cases r1
          cases r2
          have hrow : RowAt w (θ.f b).blk (o + (θ.f b).sh) [((0 : Int), (0 : Int), (4 : Int))] := fun i c hi => by
            cases i with
            | zero =>
              obtain rfl : ((0 : Int), (0 : Int), (4 : Int)) = c := by simpa using hi
              refine ⟨by simpa using e0, ?_, ?_⟩
              · rw [show o + (θ.f b).sh + 0 * 3 + 1 = o + 1 + (θ.f b).sh by omega]; exact e1
              · rw [show o + (θ.f b).sh + 0 * 3 + 2 = o + 2 + (θ.f b).sh by omega]; exact e2
            | succ i => simp at hi
          have hsl : Sl w x' [((0 : Int), (0 : Int), (4 : Int))] := by
            cases hx with
            | slice _ _ => exact Sl.row (l := [((0 : Int), (0 : Int), (4 : Int))]) hrow hbl
            | sliceO _ _ _ => exact Sl.row (l := [((0 : Int), (0 : Int), (4 : Int))]) hrow hbl
          have hcon := bitHeights_ok x' w hsl
          refine (callsIn_wide (n := k)).2 (hcon.mono ?_)
          rintro e' w' ⟨B, g, cap, rfl, hm, hg4, hcap, hB, hG, hbel⟩
          have hgl : g < w'.heap.size := by
            rcases Nat.lt_or_ge g w'.heap.size with h | h
            · exact h
            · simp [World.cell?, Array.getElem?_eq_none h] at hg4
          have hBl : B < w'.heap.size := (Array.getElem?_eq_some_iff.1 hm).1
          have hgB : g ≠ B := by
            rintro rfl
            simp [World.cell?, hm] at hg4
          have hr0 : CRel Tryz.prog (θ.ext ⟨g, 0, cap, 1⟩) ⟨g, 0, cap, 1⟩ { n := 1, z := [], t := Tr.nil.setAll 0 [.int .i64 4], elem := 3, opn := true, ro := true } w' := by
            refine ⟨fun j u eu => ?_, fun x => (by cases x), fun _ => rfl, fun x => (by cases x)⟩
            have e5 : [Value.int .i64 4][j]? = some u := at_list' [Value.int .i64 4] 3 1 true (bs := true) rfl j u eu
            cases j with
            | zero =>
              obtain rfl : Value.int .i64 4 = u := by simpa using e5
              exact ⟨_, hg4, .int _ _⟩
            | succ j => simp at e5
          have hr1 : ORel Tryz.prog (θ.ext ⟨g, 0, cap, 1⟩) ⟨g, 0, cap, 1⟩ rowO w' := hr0
          obtain ⟨p, q⟩ := r.newAt (o := rowO) (th := ⟨g, 0, cap, 1⟩) (w' := w') hG hgl hbel.os hbel.tape hbel.output hbel.size (fun b hb => hbel.block b hb) hr1
          have hnx : (θ.ext ⟨g, 0, cap, 1⟩).nx = h.next + 1 := by rw [← r.nx]; rfl
          have hfn : (θ.ext ⟨g, 0, cap, 1⟩).f h.next = ⟨g, 0, cap, 1⟩ := by rw [← r.nx, Env.ext_new]
          have hr2 : ORel Tryz.prog ((θ.ext ⟨g, 0, cap, 1⟩).ext ⟨B, 0, 0, 0⟩) ⟨B, 0, 0, 0⟩ (mapO h.next) w' := by
            refine ⟨_, hm, ⟨rfl, fun i a a' ha ha' => ?_⟩⟩
            cases i with
            | zero =>
              obtain rfl := Option.some.inj ha
              obtain rfl := Option.some.inj ha'
              refine ⟨rfl, rfl, ?_⟩
              have hf2 : ((θ.ext ⟨g, 0, cap, 1⟩).ext ⟨B, 0, 0, 0⟩).f h.next = ⟨g, 0, cap, 1⟩ := by rw [Env.ext_old _ _ (by rw [hnx]; omega), hfn]
              have := VRel.sliceO (θ := (θ.ext ⟨g, 0, cap, 1⟩).ext ⟨B, 0, 0, 0⟩) (b := h.next) (o := 0) (n := 1) (c := cap) (by show h.next < (θ.ext ⟨g, 0, cap, 1⟩).nx + 1; rw [hnx]; omega) hcap (by rw [hf2]; simp)
              rw [hf2] at this
              exact this
            | succ i => simp at ha
          obtain ⟨p2, q2⟩ := rep_newAt2 p q (o := mapO h.next) (th := ⟨B, 0, 0, 0⟩) hB hBl (fun i oi e => by
            rw [AHeap.get_new] at e
            by_cases hi : i = h.next
            · subst hi
              rw [hfn]
              exact hgB
            · rw [if_neg hi] at e
              rw [Env.ext_old _ _ (r.lt e)]
              have := (r.obj i oi e).2.1
              simp only
              omega) hr2
          refine ⟨_, (θ.ext ⟨g, 0, cap, 1⟩).ext ⟨B, 0, 0, 0⟩, rfl, ?_, p2, q2⟩
          have hf3 : ((θ.ext ⟨g, 0, cap, 1⟩).ext ⟨B, 0, 0, 0⟩).f (h.next + 1) = ⟨B, 0, 0, 0⟩ := by rw [← hnx, Env.ext_new]
          have := VRel.map (θ := (θ.ext ⟨g, 0, cap, 1⟩).ext ⟨B, 0, 0, 0⟩) (r := h.next + 1) (by show h.next + 1 < (θ.ext ⟨g, 0, cap, 1⟩).nx + 1; rw [hnx]; omega)
          rw [hf3] at this
          exact this
      · cases e
    · cases e
end Go.Proofs
end

section
/- The closed example of the laws of chapter 4. -/
namespace Go.Proofs
open Go.AM Go.RowKit
set_option maxRecDepth 1000000
theorem tray_names : NamesOk Tryz.prog := namesOk_of (by kernel_rfl)
theorem tray_mixed : Tryz.prog.follows .mixedOrders = true := by kernel_rfl
noncomputable def traySum : Sum := fun f args h => Option.rec (sumHts 81 f args h) (fun r => some r) (sumCells 46 f args h)
theorem traySum_ok : SumOk Tryz.prog traySum := fun f args h v h' e => by
  unfold traySum at e
  cases hc : sumCells 46 f args h with
  | none => rw [hc] at e; exact sumHts_ok f args h v h' e
  | some r => rw [hc] at e; exact sumCells_ok f args h v h' (hc.trans e)
theorem tray_runs : (callF Tryz.prog traySum 100000 6 [] h0).map (·.1) = some (.bool true) := by kernel_rfl
/-- The fixed example holds, from any world, and nothing old is turned. -/
theorem trayClosed_ok (w : World) : Calls Tryz.prog 6 #[] w fun e w' => e = .returned (.bool true) ∧ Below w.heap.size w w' := by
  have e := tray_runs
  rw [callF_eq] at e
  obtain ⟨⟨v, h'⟩, he, hv⟩ := Option.map_eq_some_iff.1 e
  simp only at hv
  subst hv
  refine (closed_callS tray_names tray_mixed traySum_ok (w := w) he rfl).mono ?_
  rintro e w' ⟨v', θ', rfl, hv, _, hb⟩
  cases hv
  exact ⟨rfl, hb⟩
end Go.Proofs
end

section
/- An argument that is a slice of cells: what it reads as. -/
namespace Go.Proofs.YtpickbchpnbffaaGreat
open Go.ChangeShapes Go.WideShapes Go.Deep Go.RowKit
set_option maxRecDepth 100000
section
variable {H : Type} {enc : TypeId × Value → H} {P : Program} {w : World} {base : Nat} {spare : Nat → Bool} {held : Bool}
theorem open_rows {t e : TypeId} {fs : Array Field} {fuel : Nat} {cs : List Value} {x : DataW H × List MemPlace} (ht : P.underlying t = some (.slice e)) (he : P.underlying e = some (.struct fs))
    (hone : oneCellFields P fs = true) (hC : P.cellsOf e = fs.size) (h : DataW.trod enc P w base spare held fuel t cs = some x) :
    (cs = [.slice none 0 0] ∧ x = (.nil, [])) ∨
    ∃ (a : Addr) (len cap m : Nat) (D : Nat → DataW H) (Pl : Nat → List MemPlace), cs = [.slice (some a) len cap] ∧ len ≤ cap ∧ cap ≤ maxLen ∧ m = (if spare a.block then cap else len) ∧
      x = (.slice ((List.range len).map D) ((List.range (m - len)).map fun j => D (len + j)), MemPlace.row a (m * fs.size) ++ (List.range m).flatMap Pl) ∧
      ∀ i, i < m → ∃ (ys : List (DataW H × List MemPlace)) (n : Nat), D i = .agg (ys.map (·.1)) ∧ ys.length = fs.size ∧
        ∀ (j : Nat) (f : Field), fs[j]? = some f → ∃ (v : Value) (y : DataW H × List MemPlace), w.cell? (a.add (i * fs.size + j)) = some v ∧ ys[j]? = some y ∧ DataW.trod enc P w base spare held n f.type [v] = some y := by
  rcases open_slice ht h with h0 | ⟨a, len, cap, m, n, D, Pl, hcs, hb, hl, hm, hmm, hx, hi⟩
  · exact .inl h0
  · refine .inr ⟨a, len, cap, m, D, Pl, hcs, hl, hm, hmm, by rw [hC] at hx; exact hx, fun i him => ?_⟩
    obtain ⟨cs', hc, ht'⟩ := hi i him
    rw [hC] at hc
    obtain ⟨ys, n', hn', hy, hlen, hyl, hf⟩ := DataW.trod_struct he ht'
    obtain ⟨_, hcl, hat⟩ := World.cells?_some hc
    simp only [Prod.mk.injEq] at hy
    refine ⟨ys, n', hy.1, hyl, fun j f hj => ?_⟩
    obtain ⟨ho, hk⟩ := hone_of hone j f hj
    have hjl : j < fs.size := (Array.getElem?_eq_some_iff.1 hj).1
    have hcell := hat j hjl
    have hv : cs'[j]? = some (cs'[j]'(by omega)) := List.getElem?_eq_getElem (by omega)
    have h1 := hf j f hj
    rw [ho, hk] at h1
    have hone' : (cs'.drop j).take 1 = [cs'[j]'(by omega)] := by
      rw [List.drop_eq_getElem_cons (by omega)]
      rfl
    rw [hone'] at h1
    have hys : ys[j]? = some (ys[j]'(by omega)) := List.getElem?_eq_getElem (by omega)
    refine ⟨_, _, ?_, hys, h1.trans hys⟩
    rw [← Go.Deep.add_add, hcell, hv]
end
theorem list_of {α : Type} (Q : Nat → α → Prop) : ∀ n : Nat, (∀ i, i < n → ∃ c, Q i c) → ∃ l : List α, l.length = n ∧ ∀ i c, l[i]? = some c → Q i c
  | 0, _ => ⟨[], rfl, fun i c h => by simp at h⟩
  | n + 1, h => by
    obtain ⟨l, h1, h2⟩ := list_of Q n fun i hi => h i (Nat.lt_succ_of_lt hi)
    obtain ⟨c, hc⟩ := h n (Nat.lt_succ_self n)
    refine ⟨l ++ [c], by simp [h1], fun i d hd => ?_⟩
    rcases Nat.lt_or_ge i l.length with hi | hi
    · rw [List.getElem?_append_left hi] at hd
      exact h2 i d hd
    · rw [List.getElem?_append_right hi] at hd
      have h3 : i - l.length = 0 := by
        rcases Nat.eq_zero_or_pos (i - l.length) with h | h
        · exact h
        · rw [List.getElem?_eq_none (by simp; omega)] at hd; cases hd
      rw [h3] at hd
      obtain rfl : c = d := by simpa using hd
      have : i = n := by omega
      rw [this]
      exact hc
theorem bulk_pos {H : Type} : ∀ d : DataW H, 1 ≤ Rows.uptoBulk d
  | .lit l => by cases l <;> simp [Rows.uptoBulk]
  | .nil => by simp [Rows.uptoBulk]
  | .ptr d => by simp [Rows.uptoBulk]
  | .slice e s => by simp [Rows.uptoBulk]
  | .agg p => by simp [Rows.uptoBulk]
  | .iface _ d => by simp [Rows.uptoBulk]
  | .map e => by simp [Rows.uptoBulk]
  | .held _ => by simp [Rows.uptoBulk]
theorem bulk_len {H : Type} : ∀ ds : List (DataW H), ds.length ≤ Rows.uptoBulkAll ds
  | [] => by simp
  | d :: ds => by
    have h1 := bulk_pos d
    have h2 := bulk_len ds
    simp only [Rows.uptoBulkAll, List.length_cons]
    omega
theorem bulk_range {H : Type} (D : Nat → DataW H) (k : Nat) : ∀ (l : List Nat), (∀ i ∈ l, k ≤ Rows.uptoBulk (D i)) → l.length * k ≤ Rows.uptoBulkAll (l.map D)
  | [], _ => by simp
  | i :: l, h => by
    have h1 := h i (List.mem_cons_self ..)
    have h2 := bulk_range D k l fun j hj => h j (List.mem_cons_of_mem _ hj)
    simp only [Rows.uptoBulkAll, List.length_cons, List.map_cons, Nat.succ_mul]
    omega
/-- The argument as a set's slice, and how many values it holds. -/
theorem open_cells {H : Type} {enc : TypeId × Value → H} {w : World} {v : Value} {d : DataW H} {p : List MemPlace} (h : DataW.Trod enc Tryz.prog w 0 (fun _ => true) true 22 v d p) (hv : ∃ (A : Option Addr) (n cap : Nat), v = .slice A n cap) :
    ∃ l : List Cel, St w v l ∧ l.length * 4 ≤ Rows.uptoBulk d := by
  obtain ⟨A, n0, c0, rfl⟩ := hv
  obtain ⟨fuel, hf⟩ := h
  obtain ⟨fs, he, hone, hC, hsz, h0, h1, h2⟩ : ∃ fs : Array Field, Tryz.prog.underlying 34 = some (.struct fs) ∧ oneCellFields Tryz.prog fs = true ∧ Tryz.prog.cellsOf 34 = fs.size ∧ fs.size = 3 ∧ (∃ f, fs[0]? = some f ∧ f.type = 3) ∧ (∃ f, fs[1]? = some f ∧ f.type = 3) ∧ (∃ f, fs[2]? = some f ∧ f.type = 3) :=
    ⟨_, Tryz.underlying34, by kernel_rfl, by kernel_rfl, rfl, ⟨_, rfl, rfl⟩, ⟨_, rfl, rfl⟩, ⟨_, rfl, rfl⟩⟩
  have hint : ∀ {n : Nat} {u : Value} {y : DataW H × List MemPlace}, DataW.trod enc Tryz.prog w 0 (fun _ => true) true n 3 [u] = some y → ∃ x : Int, u = .int .i64 x := fun {n u y} h => by
    obtain ⟨x, hx, _⟩ := DataW.trod_int Tryz.underlying3 h
    exact ⟨x, by simpa using hx⟩
  rcases open_rows Tryz.underlying22 he hone hC hf with ⟨hcs, hx⟩ | ⟨a, len, cap, m, D, Pl, hcs, hl, hm, hmm, hx, hi⟩
  · simp [Value.cells] at hcs
    obtain ⟨rfl, rfl, rfl⟩ := hcs
    exact ⟨[], ⟨.inl ⟨rfl, rfl⟩, none, 0, rfl, by simp, by omega⟩, by simp⟩
  · simp [Value.cells] at hcs
    obtain ⟨rfl, rfl, rfl⟩ := hcs
    simp only [if_true] at hmm
    subst hmm
    have hcel : ∀ i, i < n0 → ∃ c : Cel, w.cell? (a.add (i * 3)) = some (.int .i64 c.1) ∧ w.cell? (a.add (i * 3 + 1)) = some (.int .i64 c.2.1) ∧ w.cell? (a.add (i * 3 + 2)) = some (.int .i64 c.2.2) := fun i hin => by
      obtain ⟨ys, n, _, _, hf'⟩ := hi i (by omega)
      rw [hsz] at hf'
      obtain ⟨f0, g0, t0⟩ := h0
      obtain ⟨f1, g1, t1⟩ := h1
      obtain ⟨f2, g2, t2⟩ := h2
      obtain ⟨v0, y0, e0, _, k0⟩ := hf' 0 f0 g0
      obtain ⟨v1, y1, e1, _, k1⟩ := hf' 1 f1 g1
      obtain ⟨v2, y2, e2, _, k2⟩ := hf' 2 f2 g2
      rw [t0] at k0
      rw [t1] at k1
      rw [t2] at k2
      obtain ⟨x, rfl⟩ := hint k0
      obtain ⟨y, rfl⟩ := hint k1
      obtain ⟨z, rfl⟩ := hint k2
      exact ⟨(x, y, z), e0, e1, e2⟩
    obtain ⟨l, hlen, hl'⟩ := list_of _ n0 hcel
    refine ⟨l, ⟨.inr ⟨a, m, by rw [hlen], fun hne => ?_⟩, some a, m, by rw [hlen], by omega, by unfold maxLen at hm; omega⟩, ?_⟩
    · obtain ⟨c, hc⟩ : ∃ c, l[0]? = some c := ⟨_, List.getElem?_eq_getElem (List.length_pos_iff.2 hne)⟩
      have hc0 := (hl' 0 c hc).1
      obtain ⟨b, o, sp⟩ := a
      obtain rfl : sp = none := by simpa [Addr.add] using World.cell?_spot hc0
      have hadd : ∀ k : Nat, (⟨b, o, none⟩ : Addr).add k = ⟨b, o + k, none⟩ := fun k => by
        unfold Addr.add
        split
        · simp_all
        · rfl
      refine ⟨rfl, ?_, fun i c hi => ?_⟩
      · rcases Nat.lt_or_ge b w.heap.size with h | h
        · exact h
        · simp [World.cell?, Addr.add, Array.getElem?_eq_none h] at hc0
      · obtain ⟨r0, r1, r2⟩ := hl' i c hi
        rw [hadd] at r0 r1 r2
        exact ⟨r0, r1, r2⟩
    · simp only [Prod.mk.injEq] at hx
      rw [hx.1, hlen]
      simp only [Rows.uptoBulk]
      have hb := bulk_range D 4 (List.range n0) fun i him => by
        obtain ⟨ys, _, hD, hys, _⟩ := hi i (by have := List.mem_range.1 him; omega)
        have := bulk_len (ys.map (·.1))
        rw [hD]
        simp only [Rows.uptoBulk]
        rw [List.length_map, hys, hsz] at this
        omega
      rw [List.length_range] at hb
      omega
end Go.Proofs.YtpickbchpnbffaaGreat
end

section
/- Arguments that are a pair of numbers, or one cell. -/
namespace Go.Proofs.YtpickbchpnbffaaGreat
open Go.ChangeShapes Go.WideShapes Go.Deep Go.RowKit
set_option maxRecDepth 100000
theorem okWide_array {P : Program} {w : World} {r : Reach} {base n : Nat} {t e : TypeId} {v : Value} (ht : P.underlying t = some (.array n e)) (h : Value.okWide P w r base t v) : ∃ cs, v = .agg cs ∧ cs.size = P.cellsOf t := by
  simp only [Value.okWide, ht] at h
  obtain ⟨cs, h1, h2, _⟩ := h
  exact ⟨cs, h1, h2⟩
theorem open_int1 {H : Type} {enc : TypeId × Value → H} {w : World} {n : Nat} {u : Value} {y : DataW H × List MemPlace} (h : DataW.trod enc Tryz.prog w 0 (fun _ => true) true n 3 [u] = some y) : ∃ x : Int, u = .int .i64 x := by
  obtain ⟨x, hx, _⟩ := DataW.trod_int Tryz.underlying3 h
  exact ⟨x, by simpa using hx⟩
theorem open_pair {H : Type} {enc : TypeId × Value → H} {w : World} {v : Value} {d : DataW H} {p : List MemPlace} (h : DataW.Trod enc Tryz.prog w 0 (fun _ => true) true 120 v d p) (hv : ∃ cs, v = .agg cs ∧ cs.size = Tryz.prog.cellsOf 120) :
    ∃ a b : Int, v = .agg #[.int .i64 a, .int .i64 b] := by
  obtain ⟨cs, rfl, hsz⟩ := hv
  obtain ⟨fuel, hf⟩ := h
  have h2 : Tryz.prog.cellsOf 120 = 2 := by kernel_rfl
  have h1 : Tryz.prog.cellsOf 3 = 1 := by kernel_rfl
  obtain ⟨l⟩ := cs
  match l, hsz.trans h2 with
  | [c0, c1], _ =>
    obtain ⟨xs, m, _, _, _, hlen, hg⟩ := DataW.trod_array Tryz.underlying120 hf
    have g0 := hg 0 (by omega)
    have g1 := hg 1 (by omega)
    rw [h1] at g0 g1
    match xs, hlen with
    | [y0, y1], _ =>
      obtain ⟨x0, rfl⟩ := open_int1 (y := y0) g0
      obtain ⟨x1, rfl⟩ := open_int1 (y := y1) g1
      exact ⟨x0, x1, rfl⟩
theorem open_cel {H : Type} {enc : TypeId × Value → H} {w : World} {v : Value} {d : DataW H} {p : List MemPlace} (h : DataW.Trod enc Tryz.prog w 0 (fun _ => true) true 34 v d p) (hv : ∃ cs, v = .agg cs ∧ cs.size = Tryz.prog.cellsOf 34) :
    ∃ x y z : Int, v = .agg #[.int .i64 x, .int .i64 y, .int .i64 z] := by
  obtain ⟨cs, rfl, hsz⟩ := hv
  obtain ⟨fuel, hf⟩ := h
  obtain ⟨f0, f1, f2, he, k0, k1, k2, o0, o1, o2, hc, h3⟩ : ∃ f0 f1 f2 : Field, Tryz.prog.underlying 34 = some (.struct #[f0, f1, f2]) ∧ f0.type = 3 ∧ f1.type = 3 ∧ f2.type = 3 ∧ f0.offset = 0 ∧ f1.offset = 1 ∧ f2.offset = 2 ∧ Tryz.prog.cellsOf 3 = 1 ∧ Tryz.prog.cellsOf 34 = 3 :=
    ⟨_, _, _, Tryz.underlying34, rfl, rfl, rfl, rfl, rfl, rfl, by kernel_rfl, by kernel_rfl⟩
  obtain ⟨l⟩ := cs
  match l, hsz.trans h3 with
  | [c0, c1, c2], _ =>
    obtain ⟨xs, m, _, _, _, hlen, hg⟩ := DataW.trod_struct he hf
    have g0 := hg 0 f0 rfl
    have g1 := hg 1 f1 rfl
    have g2 := hg 2 f2 rfl
    rw [k0, o0, hc] at g0
    rw [k1, o1, hc] at g1
    rw [k2, o2, hc] at g2
    match xs, hlen with
    | [y0, y1, y2], _ =>
      obtain ⟨x0, rfl⟩ := open_int1 (y := y0) g0
      obtain ⟨x1, rfl⟩ := open_int1 (y := y1) g1
      obtain ⟨x2, rfl⟩ := open_int1 (y := y2) g2
      exact ⟨x0, x1, x2, rfl⟩
end Go.Proofs.YtpickbchpnbffaaGreat
end

section
/- An argument that is a bite: three slices of cells. -/
namespace Go.Proofs.YtpickbchpnbffaaGreat
open Go.ChangeShapes Go.WideShapes Go.Deep Go.RowKit
set_option maxRecDepth 100000
theorem open_cellsB {H : Type} {enc : TypeId × Value → H} {w : World} {n : Nat} {u : Value} {y : DataW H × List MemPlace} (h : DataW.trod enc Tryz.prog w 0 (fun _ => true) true n 22 [u] = some y) : ∃ l : List Cel, St w u l := by
  obtain ⟨fs, he, hone, hC⟩ : ∃ fs : Array Field, Tryz.prog.underlying 34 = some (.struct fs) ∧ oneCellFields Tryz.prog fs = true ∧ Tryz.prog.cellsOf 34 = fs.size :=
    ⟨_, Tryz.underlying34, by kernel_rfl, by kernel_rfl⟩
  obtain ⟨A, len, cap, rfl⟩ : ∃ (A : Option Addr) (len cap : Nat), u = .slice A len cap := by
    rcases open_rows Tryz.underlying22 he hone hC h with ⟨hcs, _⟩ | ⟨a, len, cap, m, D, Pl, hcs, _⟩
    · exact ⟨none, 0, 0, by simpa using hcs⟩
    · exact ⟨some a, len, cap, by simpa using hcs⟩
  obtain ⟨d, p⟩ := y
  obtain ⟨l, hl, _⟩ := open_cells (enc := enc) (v := .slice A len cap) (d := d) (p := p) (w := w) ⟨n, h⟩ ⟨A, len, cap, rfl⟩
  exact ⟨l, hl⟩
theorem open_bite {H : Type} {enc : TypeId × Value → H} {w : World} {v : Value} {d : DataW H} {p : List MemPlace} (h : DataW.Trod enc Tryz.prog w 0 (fun _ => true) true 24 v d p) (hv : ∃ cs, v = .agg cs ∧ cs.size = Tryz.prog.cellsOf 24) :
    ∃ (va vb vc : Value) (a b c : List Cel), v = .agg #[va, vb, vc] ∧ St w va a ∧ St w vb b ∧ St w vc c := by
  obtain ⟨cs, rfl, hsz⟩ := hv
  obtain ⟨fuel, hf⟩ := h
  obtain ⟨f0, f1, f2, he, k0, k1, k2, o0, o1, o2, hs, h3⟩ : ∃ f0 f1 f2 : Field, Tryz.prog.underlying 24 = some (.struct #[f0, f1, f2]) ∧ f0.type = 22 ∧ f1.type = 22 ∧ f2.type = 22 ∧ f0.offset = 0 ∧ f1.offset = 1 ∧ f2.offset = 2 ∧ Tryz.prog.cellsOf 22 = 1 ∧ Tryz.prog.cellsOf 24 = 3 :=
    ⟨_, _, _, Tryz.underlying24, rfl, rfl, rfl, rfl, rfl, rfl, by kernel_rfl, by kernel_rfl⟩
  obtain ⟨l⟩ := cs
  match l, hsz.trans h3 with
  | [c0, c1, c2], _ =>
    obtain ⟨xs, m, _, _, _, hlen, hg⟩ := DataW.trod_struct he hf
    have g0 := hg 0 f0 rfl
    have g1 := hg 1 f1 rfl
    have g2 := hg 2 f2 rfl
    rw [k0, o0, hs] at g0
    rw [k1, o1, hs] at g1
    rw [k2, o2, hs] at g2
    match xs, hlen with
    | [y0, y1, y2], _ =>
      obtain ⟨a, ha⟩ := open_cellsB (y := y0) g0
      obtain ⟨b, hb⟩ := open_cellsB (y := y1) g1
      obtain ⟨c, hc⟩ := open_cellsB (y := y2) g2
      exact ⟨c0, c1, c2, a, b, c, rfl, ha, hb, hc⟩
end Go.Proofs.YtpickbchpnbffaaGreat
end
