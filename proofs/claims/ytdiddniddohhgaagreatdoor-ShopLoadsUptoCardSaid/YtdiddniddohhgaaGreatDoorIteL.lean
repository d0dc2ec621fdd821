import Derived.Test.YtdiddniddohhgaaGreatDoorErrA
import Derived.Test.YtdiddniddohhgaaGreatDoorPakP
import Derived.Test.YtdiddniddohhgaaGreatDoorFlat
import Derived.Lib.AppendZeros
section
/- Laws of the shop: the first of some errors, an error if a condition holds, and that a number and an error are the wanted ones. -/
namespace Go.Proofs
open Go.RowKit Go.MapKept
set_option maxHeartbeats 16000000
set_option maxRecDepth 1000000
theorem lawFirst3 (a b c : Int) (blk cap : Nat) (w : World) (h0 : w.cell? ⟨blk, 0, none⟩ = some (.int .i64 a)) (h1 : w.cell? ⟨blk, 1, none⟩ = some (.int .i64 b)) (h2 : w.cell? ⟨blk, 2, none⟩ = some (.int .i64 c)) :
    Calls Tryz.prog 12 #[.slice (some ⟨blk, 0, none⟩) 3 cap] w fun e w' => e = .returned (.int .i64 (or3 a b c)) ∧ w' = w := by
  go_enter Tryz.func12, Tryz.ntmps12
  go_wp2
  refine wp_loop_rounds 4 ?_
  rw [rounds_succ]
  go_wp2
  all_goals (try (rw [rounds_succ]; go_wp2))
  all_goals (try (rw [rounds_succ]; go_wp2))
  all_goals (try (rw [rounds_succ]; go_wp2))
  all_goals go_ret
  all_goals (refine ⟨?_, rfl⟩; unfold or3; simp_all)
theorem lawFirst2 (a b : Int) (blk cap : Nat) (w : World) (h0 : w.cell? ⟨blk, 0, none⟩ = some (.int .i64 a)) (h1 : w.cell? ⟨blk, 1, none⟩ = some (.int .i64 b)) :
    Calls Tryz.prog 12 #[.slice (some ⟨blk, 0, none⟩) 2 cap] w fun e w' => e = .returned (.int .i64 (or3 a b 0)) ∧ w' = w := by
  go_enter Tryz.func12, Tryz.ntmps12
  go_wp2
  refine wp_loop_rounds 3 ?_
  rw [rounds_succ]
  go_wp2
  all_goals (try (rw [rounds_succ]; go_wp2))
  all_goals (try (rw [rounds_succ]; go_wp2))
  all_goals go_ret
  all_goals (refine ⟨?_, rfl⟩; unfold or3; simp_all)
theorem lawWhen_ok (b : Bool) (n : Int) (w : World) : Calls Tryz.prog 13 #[.bool b, .int .i64 n] w fun e w' => e = .returned (.int .i64 (if b then n else 0)) ∧ w' = w := by
  cases b
  · go_enter Tryz.func13, Tryz.ntmps13
    go_wp2
    go_ret
    exact ⟨rfl, rfl⟩
  · go_enter Tryz.func13, Tryz.ntmps13
    go_wp2
    go_ret
    exact ⟨rfl, rfl⟩
theorem lawInt_ok (d e : Int) (h : e = 0 ∨ d = 0) (w : World) : Calls Tryz.prog 18 #[.int .i64 d, .int .i64 e, .int .i64 d, .int .i64 e] w fun e w' => e = .returned (.bool true) ∧ w' = w := by
  by_cases he : e = 0
  · subst he
    clear h
    go_enter Tryz.func18, Tryz.ntmps18
    go_wp2
    all_goals (go_ret; exact ⟨rfl, rfl⟩)
  · have hd : d = 0 := h.resolve_left he
    subst hd
    clear h
    have h1 : (e == 0) = false := by simpa using he
    have h2 : (e != 0) = true := by simpa using he
    clear he
    go_enter Tryz.func18, Tryz.ntmps18
    go_wp2
    all_goals (go_ret; exact ⟨rfl, rfl⟩)
/-- The tabs that are few, or too many, and not too many to be read. -/
def ShortG (l : List TabT) (n : Nat) : Prop := l.length ≤ n ∨ 32 < l.length
def ShortS (l : List TabT) (w : World) (e : Ending) (w' : World) : Prop := (∃ r : Bool, e = .returned (.bool r) ∧ (r = true → ShortG l 6)) ∧ Below w.heap.size w w'
theorem shortX_mk {l : List TabT} {w w' : World} (r : Bool) (h : r = true → ShortG l 6) (hb : Below w.heap.size w w') : ShortS l w (.returned (.bool r)) w' := ⟨⟨r, rfl, h⟩, hb⟩
end Go.Proofs
end

section
/- Items: as those of the reference; few ones, or too many. -/
namespace Go.Proofs
open Go.RowKit Go.MapKept
set_option maxHeartbeats 16000000
set_option maxRecDepth 1000000
def encQ (t : ItemT) : List Value := [.string t.1, .string t.2.1, .int .i64 t.2.2]
def itemV (t : ItemT) : Value := .agg #[.string t.1, .string t.2.1, .int .i64 t.2.2]
theorem encQ_len : ∀ t, (encQ t).length = 3 := fun _ => rfl
theorem encQ_one : ∀ t, ∀ u ∈ encQ t, u.oneCell' = true := fun t u hu => by
  simp only [encQ, List.mem_cons, List.not_mem_nil, or_false] at hu
  rcases hu with rfl | rfl | rfl <;> rfl
theorem ite_cells {w : World} {A : Option Addr} {n cap : Nat} {l : List ItemT} (h : SlF encQ w (.slice A n cap) l) {k : Nat} {x : ItemT} (hk : l[k]? = some x) :
    ∃ b o, A = some ⟨b, o, none⟩ ∧ n = l.length ∧ b < w.heap.size ∧ w.cell? ⟨b, o + k * 3, none⟩ = some (.string x.1) ∧ w.cell? ⟨b, o + k * 3 + 1, none⟩ = some (.string x.2.1) ∧ w.cell? ⟨b, o + k * 3 + 2, none⟩ = some (.int .i64 x.2.2) := by
  obtain ⟨b, o, h1, h2, h3, h4⟩ := h.cells encQ_len hk
  exact ⟨b, o, h1, h2, h3, h4 0 _ rfl, h4 1 _ rfl, h4 2 _ rfl⟩
theorem takeF_lenQ {α : Type} {l : List α} {k : Nat} (h : k ≤ l.length) : (l.take k).length = k := by rw [List.length_take]; omega
theorem takeF_succQ {α : Type} {l : List α} {k : Nat} {x : α} (h : l[k]? = some x) : l.take (k + 1) = l.take k ++ [x] := by rw [List.take_add_one, h]; rfl
theorem flat_rowQ {w : World} {b : Nat} {T : TypeId} {cs : List Value} (h : w.heap[b]? = some (.cells cs.toArray T (0, 0))) : FlatAt w b 0 cs := fun j u hj => by
  rw [Nat.zero_add, cell_of_row w b j _ _ _ h]
  simpa using hj
theorem wrapsLQ {k : Nat} (h : k < 1048576) : wrap64 ((k : Int) + 1) = (k : Int) + 1 ∧ IntKind.i64.wrap ((k : Int) + 1) = (k : Int) + 1 := ⟨wrap64_small (by omega), wrap_small (by omega)⟩
theorem lawItems_ok (v : Value) (l : List ItemT) (w : World) (hl : SlF encQ w v l) (hn : l.length ≤ 1048576) :
    Calls Tryz.prog 5 #[v] w fun e w' => (∃ u, e = .returned u ∧ OwnF encQ 3 46 w' w.heap.size u l) ∧ Below w.heap.size w w' := by
  obtain ⟨A, cap, rfl⟩ := hl.form
  go_enter Tryz.func5, Tryz.ntmps5
  go_wp2
  go_loopw [3, 8] (fun u i wr => ∃ k : Nat, k ≤ l.length ∧ i = .int .i64 k ∧ OwnF encQ 3 46 wr w.heap.size u (l.take k) ∧ Below w.heap.size w wr) (fun _ i _ => l.length - (intOf i).toNat)
  case atStart => exact ⟨0, Nat.zero_le _, rfl, OwnF.nil _ _ _, Below.refl _ _⟩
  case round =>
    obtain ⟨k, hk, rfl, hown, hBw⟩ := hrel
    obtain ⟨Au, cu, hu⟩ := (hown.sl encQ_len).form
    rw [takeF_lenQ hk] at hu
    subst hu
    rcases Nat.lt_or_eq_of_le hk with hkn | rfl
    · obtain ⟨⟨nm, kd, gr⟩, hc⟩ : ∃ t, l[k]? = some t := ⟨_, List.getElem?_eq_getElem hkn⟩
      obtain ⟨b, o, rfl, -, hb, r0, r1, r2⟩ := ite_cells (hl.below hBw) hc
      dsimp only at r0 r1 r2
      have hi0 : (0 : Int) ≤ k := by omega
      have hi1 : (k : Int) < l.length := by omega
      have HWK := Lib.hid (wrapsLQ (show k < 1048576 by omega))
      have HK := Lib.hid (show k + 1 ≤ l.length from hkn)
      have HM := Lib.hid (show l.length - (k + 1) < l.length - k by omega)
      obtain ⟨Wt, hW⟩ : ∃ Wt, Wt = (wr.alloc (.cells #[.string nm, .string kd, .int .i64 gr] 48)).alloc (.cells #[.string nm, .string kd, .int .i64 gr] 46) := ⟨_, rfl⟩
      have hQt : Below wr.heap.size wr Wt := by subst hW; exact ((Below.refl _ _).alloc (Nat.le_refl _) _).alloc (by simp) _
      have hrowN : Wt.heap[wr.heap.size + 1]? = some (.cells (encQ (nm, kd, gr)).toArray 46 (0, 0)) := by
        have := heap_alloc_new (wr.alloc (.cells #[.string nm, .string kd, .int .i64 gr] 48)) (.cells #[.string nm, .string kd, .int .i64 gr] 46)
        rw [← hW] at this
        unfold encQ
        simpa using this
      have hownT := hown.keep hQt
      have hBt := hBw.trans (hQt.mono hBw.size)
      have hlt := hownT.lt
      obtain ⟨A2, c2, w2, hap, hown2, hg2, -⟩ := run_append_one (P := Tryz.prog) Wt 24 24 46 w.heap.size _ (l.take k) (nm, kd, gr) encQ_len encQ_one hownT (wr.heap.size + 1) 1 40 (.agg #[.string ⟨#[]⟩, .string ⟨#[]⟩, .int .i64 0]) Tryz.underlying24 (by kernel_rfl) rfl (by decide) (by decide) (flat_rowQ hrowN) (by rw [takeF_lenQ hk]; omega) hBt.size
      rw [takeF_lenQ hk] at hap hown2
      rw [← takeF_succQ hc] at hown2
      have hB2 := hBt.grown hg2 hBt.size (fun g e => (hlt g e).1)
      have HW1 := Lib.hid hW
      have HAP := Lib.hid hap
      have HO := Lib.hid (And.intro hown2 hB2)
      clear hap hW hown2 hg2 hB2 hlt hBt hownT hrowN hQt hown hBw hc hl hb
      obtain ⟨wk1, wk2⟩ := HWK.out
      go_wp2_with (at_builtin; rw [← HW1.out]; refine Lib.wpList_append_run _ rfl _ _ _ _ rfl _ _ rfl rfl _ _ HAP.out ?_)
      go_roundw
      case rel => exact ⟨k + 1, HK.out, by simp, HO.out.1, HO.out.2⟩
      case measure => exact HM.out
    · rw [List.take_of_length_le (Nat.le_refl _)] at hown
      go_wp2
      go_ret
      exact ⟨⟨_, rfl, hown⟩, hBw⟩
/-- The items that are few, or too many, and not too many to be read. -/
def ShortQ (l : List ItemT) (n : Nat) : Prop := l.length ≤ n ∨ 64 < l.length
def ShortQS (l : List ItemT) (n : Nat) (w : World) (e : Ending) (w' : World) : Prop := (∃ r : Bool, e = .returned (.bool r) ∧ (r = true → ShortQ l n)) ∧ Below w.heap.size w w'
theorem shortQ_mk {l : List ItemT} {n : Nat} {w w' : World} (r : Bool) (h : r = true → ShortQ l n) (hb : Below w.heap.size w w') : ShortQS l n w (.returned (.bool r)) w' := ⟨⟨r, rfl, h⟩, hb⟩
theorem refShortQ_ok (v : Value) (l : List ItemT) (n : Nat) (w : World) (hl : SlF encQ w v l) :
    Calls Tryz.prog 6 #[v, .int .i64 n] w (ShortQS l n w) := by
  obtain ⟨A, cap, rfl⟩ := hl.form
  have hB0 := Below.refl w.heap.size w
  go_enter Tryz.func6, Tryz.ntmps6
  go_wp2
  all_goals (try (go_ret; exact shortQ_mk false (fun h => by cases h) hB0))
  all_goals (
    have hS : ShortQ l n := by first | exact .inl (by omega) | exact .inr (by omega)
    have HS := Lib.hid hS
    clear hS
    go_loopw [5] (fun i wr => ∃ k : Nat, k ≤ l.length ∧ i = .int .i64 k ∧ SlF encQ wr (.slice A l.length cap) l ∧ Below w.heap.size w wr) (fun i _ => l.length - (intOf i).toNat)
    case atStart => exact ⟨0, Nat.zero_le _, rfl, hl, hB0⟩
    case round =>
      clear hl hB0
      obtain ⟨k, hk, rfl, hl, hB0⟩ := hrel
      rcases Nat.lt_or_eq_of_le hk with hkn | rfl
      · obtain ⟨⟨nm, kd, gr⟩, hc⟩ : ∃ t, l[k]? = some t := ⟨_, List.getElem?_eq_getElem hkn⟩
        obtain ⟨b, o, rfl, -, hb, r0, r1, r2⟩ := ite_cells hl hc
        dsimp only at r0 r1 r2
        have hi0 : (0 : Int) ≤ k := by omega
        have hi1 : (k : Int) < l.length := by omega
        go_wp2
        all_goals (first
          | (go_ret; exact shortQ_mk false (fun h => by cases h) hB0)
          | (refine ⟨⟨k + 1, hkn, by simp_all, hl, hB0⟩, by simp_all [intOf] <;> omega⟩))
      · go_wp2
        go_ret
        exact shortQ_mk true (fun _ => HS.out) hB0)
end Go.Proofs
end
