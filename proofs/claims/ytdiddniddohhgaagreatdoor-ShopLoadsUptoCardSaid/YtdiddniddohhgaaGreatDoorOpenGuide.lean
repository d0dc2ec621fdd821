/- Arguments that are a guide, a colour or a tab. -/
import Derived.Test.YtdiddniddohhgaaGreatDoorShdP
import Derived.Test.YtdiddniddohhgaaGreatDoorRows
import Derived.Deep.Slices
import Derived.Deep.Fields
import Derived.ChangeSame
import Derived.OpenShut
namespace Go.Proofs.YtdiddniddohhgaaGreatDoor
open Go.ChangeShapes Go.WideShapes Go.Deep Go.RowKit
set_option maxRecDepth 100000
theorem list_of {α : Type} (Q : Nat → α → Prop) : ∀ n : Nat, (∀ i, i < n → ∃ c, Q i c) → ∃ l : List α, l.length = n ∧ ∀ i c, l[i]? = some c → Q i c
  | 0, _ => ⟨[], rfl, fun i c h => by simp at h⟩
  | n + 1, h => by
    obtain ⟨l, h1, h2⟩ := list_of Q n fun i hi => h i (Nat.lt_succ_of_lt hi)
    obtain ⟨c, hc⟩ := h n (Nat.lt_succ_self n)
    refine ⟨l ++ [c], by simp [h1], fun i d hd => ?_⟩
    rcases Nat.lt_or_ge i l.length with hi | hi
    · rw [List.getElem?_append_left hi] at hd
      exact h2 i d hd
    · rw [List.getElem?_append_right hi] at hd
      have h3 : i - l.length = 0 := by
        rcases Nat.eq_zero_or_pos (i - l.length) with h | h
        · exact h
        · rw [List.getElem?_eq_none (by simp; omega)] at hd; cases hd
      rw [h3] at hd
      obtain rfl : c = d := by simpa using hd
      have : i = n := by omega
      rw [this]
      exact hc
theorem bulk_pos {H : Type} : ∀ d : DataW H, 1 ≤ Rows.uptoBulk d
  | .lit l => by cases l <;> simp [Rows.uptoBulk]
  | .nil => by simp [Rows.uptoBulk]
  | .ptr d => by simp [Rows.uptoBulk]
  | .slice e s => by simp [Rows.uptoBulk]
  | .agg p => by simp [Rows.uptoBulk]
  | .iface _ d => by simp [Rows.uptoBulk]
  | .map e => by simp [Rows.uptoBulk]
  | .held _ => by simp [Rows.uptoBulk]
theorem bulk_len {H : Type} : ∀ ds : List (DataW H), ds.length ≤ Rows.uptoBulkAll ds
  | [] => by simp
  | d :: ds => by
    have h1 := bulk_pos d
    have h2 := bulk_len ds
    simp only [Rows.uptoBulkAll, List.length_cons]
    omega
theorem bulk_mem {H : Type} {d : DataW H} : ∀ {ds : List (DataW H)} {i : Nat}, ds[i]? = some d → Rows.uptoBulk d ≤ Rows.uptoBulkAll ds
  | [], i, h => by simp at h
  | x :: ds, 0, h => by
    obtain rfl : x = d := by simpa using h
    simp only [Rows.uptoBulkAll]
    omega
  | x :: ds, i + 1, h => by
    have := bulk_mem (ds := ds) (i := i) (d := d) (by simpa using h)
    simp only [Rows.uptoBulkAll]
    omega
theorem okWide_array {P : Program} {w : World} {r : Reach} {base n : Nat} {t e : TypeId} {v : Value} (ht : P.underlying t = some (.array n e)) (h : Value.okWide P w r base t v) : ∃ cs, v = .agg cs ∧ cs.size = P.cellsOf t := by
  simp only [Value.okWide, ht] at h
  obtain ⟨cs, h1, h2, _⟩ := h
  exact ⟨cs, h1, h2⟩
section
variable {H : Type} {enc : TypeId × Value → H} {w : World}
theorem open_int1 {n : Nat} {u : Value} {y : DataW H × List MemPlace} (h : DataW.trod enc Tryz.prog w 0 (fun _ => true) true n 3 [u] = some y) : ∃ x : Int, u = .int .i64 x := by
  obtain ⟨x, hx, _⟩ := DataW.trod_int Tryz.underlying3 h
  exact ⟨x, by simpa using hx⟩
theorem open_col1 {n : Nat} {c0 c1 c2 : Value} {y : DataW H × List MemPlace} (h : DataW.trod enc Tryz.prog w 0 (fun _ => true) true n 78 [c0, c1, c2] = some y) : ∃ c : Cel, c0 = .int .i64 c.1 ∧ c1 = .int .i64 c.2.1 ∧ c2 = .int .i64 c.2.2 := by
  have h1 : Tryz.prog.cellsOf 3 = 1 := by kernel_rfl
  obtain ⟨xs, m, _, _, _, hlen, hg⟩ := DataW.trod_array Tryz.underlying78 h
  have g0 := hg 0 (by omega)
  have g1 := hg 1 (by omega)
  have g2 := hg 2 (by omega)
  rw [h1] at g0 g1 g2
  match xs, hlen with
  | [y0, y1, y2], _ =>
    obtain ⟨x0, rfl⟩ := open_int1 (y := y0) g0
    obtain ⟨x1, rfl⟩ := open_int1 (y := y1) g1
    obtain ⟨x2, rfl⟩ := open_int1 (y := y2) g2
    exact ⟨(x0, x1, x2), rfl, rfl, rfl⟩
theorem open_tab1 {n : Nat} {cs : List Value} {y : DataW H × List MemPlace} (h : DataW.trod enc Tryz.prog w 0 (fun _ => true) true n 80 cs = some y) (hl : cs.length = 4) : ∃ t : TabT, cs = encT t := by
  obtain ⟨f0, f1, he, k0, k1, o0, o1, hs, h3⟩ : ∃ f0 f1 : Field, Tryz.prog.underlying 80 = some (.struct #[f0, f1]) ∧ f0.type = 9 ∧ f1.type = 78 ∧ f0.offset = 0 ∧ f1.offset = 1 ∧ Tryz.prog.cellsOf 9 = 1 ∧ Tryz.prog.cellsOf 78 = 3 :=
    ⟨_, _, Tryz.underlying80, rfl, rfl, rfl, rfl, by kernel_rfl, by kernel_rfl⟩
  match cs, hl with
  | [c0, c1, c2, c3], _ =>
    obtain ⟨xs, m, _, _, _, hlen, hg⟩ := DataW.trod_struct he h
    have g0 := hg 0 f0 rfl
    have g1 := hg 1 f1 rfl
    rw [k0, o0, hs] at g0
    rw [k1, o1, h3] at g1
    match xs, hlen with
    | [y0, y1], _ =>
      obtain ⟨s, hs', _⟩ := DataW.trod_string (x := y0) Tryz.underlying9 g0
      obtain ⟨c, rfl, rfl, rfl⟩ := open_col1 (y := y1) g1
      obtain rfl : c0 = .string s := by simpa using hs'
      exact ⟨(s, c), rfl⟩
theorem open_tabs1 {n : Nat} {u : Value} {y : DataW H × List MemPlace} (h : DataW.trod enc Tryz.prog w 0 (fun _ => true) true n 81 [u] = some y) : ∃ l : List TabT, SlT w u l ∧ l.length ≤ Rows.uptoBulk y.1 := by
  have hC : Tryz.prog.cellsOf 80 = 4 := by kernel_rfl
  rcases open_slice Tryz.underlying81 h with ⟨hcs, hx⟩ | ⟨a, len, cap, m, n', D, Pl, hcs, hb, hl, hm, hmm, hx, hi⟩
  · obtain rfl : u = .slice none 0 0 := by simpa using hcs
    exact ⟨[], .inl ⟨rfl, rfl⟩, by simp⟩
  · obtain rfl : u = .slice (some a) len cap := by simpa using hcs
    simp only [if_true] at hmm
    subst hmm
    have hcel : ∀ i, i < len → ∃ t : TabT, w.cell? (a.add (i * 4)) = some (.string t.1) ∧ w.cell? (a.add (i * 4 + 1)) = some (.int .i64 t.2.1) ∧ w.cell? (a.add (i * 4 + 2)) = some (.int .i64 t.2.2.1) ∧ w.cell? (a.add (i * 4 + 3)) = some (.int .i64 t.2.2.2) := fun i hin => by
      obtain ⟨cs', hc, ht'⟩ := hi i (by omega)
      rw [hC] at hc
      obtain ⟨_, hcl, hat⟩ := World.cells?_some hc
      obtain ⟨t, rfl⟩ := open_tab1 ht' hcl
      have h0 := hat 0 (by omega)
      have h1 := hat 1 (by omega)
      have h2 := hat 2 (by omega)
      have h3 := hat 3 (by omega)
      rw [Go.Deep.add_add] at h0 h1 h2 h3
      exact ⟨t, h0, h1, h2, h3⟩
    obtain ⟨l, hlen, hl'⟩ := list_of _ len hcel
    refine ⟨l, .inr ⟨a, m, by rw [hlen], fun hne => ?_⟩, ?_⟩
    · obtain ⟨c, hc⟩ : ∃ c, l[0]? = some c := ⟨_, List.getElem?_eq_getElem (List.length_pos_iff.2 hne)⟩
      have hc0 := (hl' 0 c hc).1
      obtain ⟨b, o, sp⟩ := a
      obtain rfl : sp = none := by simpa [Addr.add] using World.cell?_spot hc0
      have hadd : ∀ k : Nat, (⟨b, o, none⟩ : Addr).add k = ⟨b, o + k, none⟩ := fun k => by
        unfold Addr.add
        split
        · simp_all
        · rfl
      refine ⟨rfl, ?_, fun i t hit => ?_⟩
      · rcases Nat.lt_or_ge b w.heap.size with h | h
        · exact h
        · simp [World.cell?, Addr.add, Array.getElem?_eq_none h] at hc0
      · obtain ⟨r0, r1, r2, r3⟩ := hl' i t hit
        rw [hadd] at r0 r1 r2 r3
        exact ⟨r0, r1, r2, r3⟩
    · subst hx
      have hb := bulk_len ((List.range len).map D)
      simp only [Rows.uptoBulk]
      rw [List.length_map, List.length_range] at hb
      omega
theorem open_guide {v : Value} {d : DataW H} {p : List MemPlace} (h : DataW.Trod enc Tryz.prog w 0 (fun _ => true) true 83 v d p) (hv : ∃ cs, v = .agg cs ∧ cs.size = Tryz.prog.cellsOf 83) :
    ∃ (ws : Cel) (u : Value) (l : List TabT), v = .agg #[.int .i64 ws.1, .int .i64 ws.2.1, .int .i64 ws.2.2, u] ∧ SlT w u l ∧ l.length ≤ Rows.uptoBulk d := by
  obtain ⟨cs, rfl, hsz⟩ := hv
  obtain ⟨fuel, hf⟩ := h
  obtain ⟨f0, f1, he, k0, k1, o0, o1, h3, hs, h4⟩ : ∃ f0 f1 : Field, Tryz.prog.underlying 83 = some (.struct #[f0, f1]) ∧ f0.type = 78 ∧ f1.type = 81 ∧ f0.offset = 0 ∧ f1.offset = 3 ∧ Tryz.prog.cellsOf 78 = 3 ∧ Tryz.prog.cellsOf 81 = 1 ∧ Tryz.prog.cellsOf 83 = 4 :=
    ⟨_, _, Tryz.underlying83, rfl, rfl, rfl, rfl, by kernel_rfl, by kernel_rfl, by kernel_rfl⟩
  obtain ⟨l⟩ := cs
  match l, hsz.trans h4 with
  | [c0, c1, c2, c3], _ =>
    obtain ⟨xs, m, _, hx, _, hlen, hg⟩ := DataW.trod_struct he hf
    have g0 := hg 0 f0 rfl
    have g1 := hg 1 f1 rfl
    rw [k0, o0, h3] at g0
    rw [k1, o1, hs] at g1
    match xs, hlen with
    | [y0, y1], _ =>
      obtain ⟨c, rfl, rfl, rfl⟩ := open_col1 (y := y0) g0
      obtain ⟨tl, ht, hb⟩ := open_tabs1 (y := y1) g1
      refine ⟨c, c3, tl, rfl, ht, ?_⟩
      simp only [Prod.mk.injEq] at hx
      rw [hx.1]
      simp only [Rows.uptoBulk, Rows.uptoBulkAll, List.map_cons, List.map_nil]
      omega
theorem open_col {v : Value} {d : DataW H} {p : List MemPlace} (h : DataW.Trod enc Tryz.prog w 0 (fun _ => true) true 78 v d p) (hv : ∃ cs, v = .agg cs ∧ cs.size = Tryz.prog.cellsOf 78) :
    ∃ c : Cel, v = colV c := by
  obtain ⟨cs, rfl, hsz⟩ := hv
  obtain ⟨fuel, hf⟩ := h
  have h3 : Tryz.prog.cellsOf 78 = 3 := by kernel_rfl
  obtain ⟨l⟩ := cs
  match l, hsz.trans h3 with
  | [c0, c1, c2], _ =>
    obtain ⟨c, rfl, rfl, rfl⟩ := open_col1 hf
    exact ⟨c, rfl⟩
theorem open_tab {v : Value} {d : DataW H} {p : List MemPlace} (h : DataW.Trod enc Tryz.prog w 0 (fun _ => true) true 80 v d p) (hv : ∃ cs, v = .agg cs ∧ cs.size = Tryz.prog.cellsOf 80) :
    ∃ t : TabT, v = tabV t := by
  obtain ⟨cs, rfl, hsz⟩ := hv
  obtain ⟨fuel, hf⟩ := h
  have h4 : Tryz.prog.cellsOf 80 = 4 := by kernel_rfl
  obtain ⟨l⟩ := cs
  obtain ⟨t, ht⟩ := open_tab1 hf (hsz.trans h4)
  exact ⟨t, by rw [show (⟨l⟩ : Array Value) = (encT t).toArray from congrArg Array.mk ht]; rfl⟩
end
end Go.Proofs.YtdiddniddohhgaaGreatDoor
