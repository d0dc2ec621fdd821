import Derived.Test.YtllameiilljelaaBoxIt
import Derived.Maps.AppendAt
section
/- slices.AppendSeq and slices.Collect of cells. -/
namespace Go.Proofs
open Go.RowKit Go.Shelf
set_option maxHeartbeats 8000000
set_option maxRecDepth 1000000
attribute [local go_sem] Oper.semAt_some
/-- A block of one cell of the document's: three numbers. -/
def BoxedC (W : World) (B : Nat) (c : Cel) : Prop := W.heap[B]? = some (.cells #[.int .i64 c.1, .int .i64 c.2.1, .int .i64 c.2.2] 26 (0, 0))
theorem BoxedC.own {β : Type} (B : Nat) (f : β → Cel) : Go.Own (fun s W => BoxedC W B (f s)) := fun s X Y row hs hg hrow =>
  (hg.block B (Array.getElem?_eq_some_iff.1 hs).1 (fun e' => by obtain ⟨o, ho, hc⟩ := hrow B e'.symm; rw [show X.heap[B]? = _ from hs] at ho; cases ho; cases hc)).trans hs
theorem BoxedC.cell {W : World} {B : Nat} {c : Cel} (h : BoxedC W B c) : W.cell? ⟨B, 0, none⟩ = some (.int .i64 c.1) ∧ W.cell? ⟨B, 1, none⟩ = some (.int .i64 c.2.1) ∧ W.cell? ⟨B, 2, none⟩ = some (.int .i64 c.2.2) := by
  have zl := fun j => cell_of_row W B j _ _ _ h
  have z0 := zl 0
  have z1 := zl 1
  have z2 := zl 2
  simp at z0 z1 z2
  exact ⟨z0, z1, z2⟩
theorem cell_three_newC (w : World) (c : Cel) (t : TypeId) : ∀ j u, (encC c)[j]? = some u → (w.alloc (.cells #[.int .i64 c.1, .int .i64 c.2.1, .int .i64 c.2.2] t)).cell? ((⟨w.heap.size, 0, none⟩ : Addr).add j) = some u := by
  intro j u hj
  match j, hj with
  | 0, hj => simp [encC] at hj; subst hj; simp [Addr.add]
  | 1, hj => simp [encC] at hj; subst hj; simp [Addr.add]
  | 2, hj => simp [encC] at hj; subst hj; simp [Addr.add]
theorem appendSeq_in (F : Fence) (n : Nat) (h84 : F.fn 61) (hro : F.round = none) (hn : 3 ≤ n) (gf : Nat) (lb : Array Value) (hgf : F.fn gf) (eg : ∀ args w, (callFunc gf args).run Try.prog w = .ok (.enter gf args) w)
    (xs : List Cel) (hlen : xs.length ≤ 1000000) (w : World)
    (hseq : ∀ w0, Below w.heap.size w w0 → SeqStopsK F (n - 1) Try.prog gf lb (fun x : Cel => #[celV x]) (Below w.heap.size) (fun ys => ys = xs) (fun pre => pre <+: xs) xs.length w0) :
    CallsIn F n Try.prog 61 #[.slice none 0 0, .func (.func gf) #[] lb] w fun e W' => ∃ v, e = .returned v ∧ Own W' w.heap.size v xs ∧ Below w.heap.size w W' := by
  have h1 : 1 ≤ n := by omega
  obtain ⟨j0, hj, hy0, hy1, hy2⟩ := info_parts (P := Try.prog) (e := 26) (z := .agg #[.int .i64 0, .int .i64 0, .int .i64 0]) (size := 3) (bytes := 24) (by kernel_rfl)
  refine callsIn_of_wp_marks Try.func61 rfl h84 ?_ hro
  simp only [Try.ntmps61, List.size_toArray, List.length_cons, List.length_nil, Nat.reduceAdd, Nat.reduceSub, Array.replicate_succ, Array.replicate_zero, List.push_toArray, List.append_toArray, List.nil_append, List.cons_append]
  gi_wp2
  have bO := Boxed.new w 22 (.slice none 0 0)
  have hB0 : Below w.heap.size w (w.alloc (.cells #[.slice none 0 0] 22)) := (Below.refl _ w).alloc (Nat.le_refl _) _
  have hsz : (w.alloc (.cells #[.slice none 0 0] 22)).heap.size = w.heap.size + 1 := by simp
  obtain ⟨W0, hW0⟩ : ∃ W0, w.alloc (.cells #[.slice none 0 0] 22) = W0 := ⟨_, rfl⟩
  rw [hW0] at bO hB0 hsz ⊢
  clear hW0
  refine wpIn_rangeFunc_ownH hro h1 (gf := gf) (lb := lb) rfl hgf eg
    (hseq W0 hB0) belowK_t (belowK_b (by omega)) (Below.refl _ _) (fun _ => rfl)
    (fun pre W => (∃ v, Boxed W w.heap.size 22 v ∧ W.ownsRow w.heap.size 26 3 v pre.length (flatC pre) ∧ True) ∧ Below w.heap.size w W)
    (fun _ _ _ => False)
    (OwnFrom.and (Go.Own.from (holdsRow_own w.heap.size w.heap.size 22 26 3 (fun pre : List Cel => pre.length) flatC (fun _ _ => True)) _) (ownFrom_below (Nat.le_refl _) (by omega)))
    (fun _ _ _ _ _ hs _ _ => hs)
    ⟨⟨_, bO, World.ownsRow_nil _ _ _ _, trivial⟩, hB0⟩
    (fun x a' W => ∃ Bx, w.heap.size < Bx ∧ BoxedC W Bx x ∧ a' = { tmps := #[.slice none 0 0, .func (.func gf) #[] lb, .pointer (some ⟨w.heap.size, 0, none⟩), undef, .slice none 0 0, .pointer (some ⟨Bx, 0, none⟩), .func (.func gf) #[] lb, celV x, undef, undef, undef, undef, undef], defers := [] })
    (fun x a' _ X Y row hs hg hr => by obtain ⟨Bx, h1, h2, h3⟩ := hs; exact ⟨Bx, h1, BoxedC.own Bx (fun (_ : Unit) => x) () X Y row h2 hg (fun r e => (hr r e).2), h3⟩)
    ?assign ?body ?done ?stop
  case assign =>
    rintro l pre ⟨x, y, z⟩ W K ⟨⟨v, bv, hrow, _⟩, hB⟩ hK
    unfold celV at hK ⊢
    dsimp only at hK ⊢
    gi_wp2
    exact hK _ _ ((KeepsOthers.alloc _ _).from _) ((Below.refl _ W).alloc hB.size _) ⟨⟨v, bv.alloc _, hrow.alloc _, trivial⟩, hB.alloc hB.size _⟩ ⟨W.heap.size, bv.lt, World.alloc_heap_new W _, rfl⟩
  case body =>
    rintro l pre ⟨x, y, z⟩ a' W hl ⟨r, hr⟩ ⟨⟨v, bv, hrow, _⟩, hB⟩ ⟨Bx, hBx, bx, rfl⟩ hlt
    have cv := bv.cell
    have fv := bv.frozen
    obtain ⟨c0, c1, c2⟩ := bx.cell
    dsimp only at c0 c1 c2
    gi_wp2_with (gi_at_builtin; refine wpListIn_append_own _ rfl _ _ 22 rfl w.heap.size 26 j0 _ 3 24 Try.underlying22 hj hy0 hy1 hy2 rfl (by decide) _ pre.length (flatC pre) rfl (hrow.alloc _) ⟨W.heap.size, 0, none⟩ 1 1 (encC (x, y, z)) rfl rfl (cell_three_newC _ (x, y, z) _) ?cB1 ?cC1 ?cD1 ?cE1 ?_)
    case cB1 => intro u hu; simp [encC] at hu; rcases hu with rfl | rfl | rfl <;> rfl
    case cC1 => unfold maxLen; omega
    case cD1 => omega
    case cE1 => simp; have := hB.size; omega
    intro v' w1 hown' hgrow _
    obtain ⟨g', cap', rfl⟩ := ownsRow_succ hown'
    obtain ⟨hv1, hv2, hr2, hk2, hb2⟩ := bv.appended (by decide) hrow hB.size (Nat.le_refl _) hown' hgrow
    have hc1 := hv1.cell
    have hf1 := hv1.frozen
    clear cv fv c0 c1 c2
    gi_wp2
    exact ⟨hk2.from _, hb2, ⟨_, hv2, by rw [flatC_append, List.length_append]; simpa [flatC] using hr2, trivial⟩, hB.trans hb2⟩
  case done =>
    rintro D ys W hD rfl ⟨⟨v, bv, hrow, _⟩, hB⟩ hK
    have cS := bv.cell
    gi_wp2
    refine ⟨by simp, .inl ⟨_, _, rfl, run_takeDeferred hK, ?_⟩⟩
    exact ⟨_, results_tmp rfl _ _ _, v, rfl, ownsRow_putObj hrow _ hK rfl, hB.trans (belowK_b (w := w) (Nat.le_refl _) W D _ _ (by omega) hK rfl rfl)⟩
  case stop =>
    rintro D c pre W _ _ h _
    exact h.elim
theorem collect_ok (gf : Nat) (lb : Array Value) (eg : ∀ args w, (callFunc gf args).run Try.prog w = .ok (.enter gf args) w)
    (xs : List Cel) (hlen : xs.length ≤ 1000000) (w : World)
    (hseq : ∀ w0, Below w.heap.size w w0 → SeqStopsK Fence.wide 2 Try.prog gf lb (fun x : Cel => #[celV x]) (Below w.heap.size) (fun ys => ys = xs) (fun pre => pre <+: xs) xs.length w0) :
    Calls Try.prog 46 #[.func (.func gf) #[] lb] w fun e W' => ∃ v, e = .returned v ∧ Own W' w.heap.size v xs ∧ Below w.heap.size w W' := by
  have h1 := fun W (hW : Below w.heap.size w W) (hs : W.heap.size = w.heap.size) => callsIn_wide.1 (appendSeq_in Fence.wide 3 trivial rfl (Nat.le_refl _) gf lb trivial eg xs hlen W (fun w0 hw0 => by rw [hs] at hw0 ⊢; exact hseq w0 (hW.trans hw0)))
  have h2 := h1 w (Below.refl _ _) rfl
  clear h1 hseq
  go_enter Try.func46, Try.ntmps46
  go_wp2_with (go_at_call 61; refine h2.mono ?_; rintro e w2 ⟨v, rfl, hown, hB⟩)
  go_ret
  exact ⟨_, rfl, hown, hB⟩
end Go.Proofs
end

section
/- slices.AppendSeq and slices.Collect of cells that come in some order. -/
namespace Go.Proofs
open Go.RowKit Go.Shelf
set_option maxHeartbeats 8000000
set_option maxRecDepth 1000000
attribute [local go_sem] Oper.semAt_some
/-- What a round of the collecting loop keeps: what lay below, and maps and what runs over them. -/
def KeepsB (n : Nat) (A B : World) : Prop := Below n A B ∧ KeepsWalks A B
theorem appendSeqP_in (F : Fence) (n : Nat) (h84 : F.fn 61) (hro : F.round = none) (hn : 3 ≤ n) (gf : Nat) (lb : Array Value) (hgf : F.fn gf) (eg : ∀ args w, (callFunc gf args).run Try.prog w = .ok (.enter gf args) w)
    (Rs : List Cel → Prop) (N : Nat) (hlen : N ≤ 1000000) (w : World)
    (hseq : ∀ w0, Below w.heap.size w w0 → SeqStopsK F (n - 1) Try.prog gf lb (fun x : Cel => #[celV x]) (KeepsB w.heap.size) Rs (fun _ => True) N w0) :
    CallsIn F n Try.prog 61 #[.slice none 0 0, .func (.func gf) #[] lb] w fun e W' => ∃ v xs, e = .returned v ∧ Rs xs ∧ Own W' w.heap.size v xs ∧ Below w.heap.size w W' := by
  have h1 : 1 ≤ n := by omega
  obtain ⟨j0, hj, hy0, hy1, hy2⟩ := info_parts (P := Try.prog) (e := 26) (z := .agg #[.int .i64 0, .int .i64 0, .int .i64 0]) (size := 3) (bytes := 24) (by kernel_rfl)
  refine callsIn_of_wp_marks Try.func61 rfl h84 ?_ hro
  simp only [Try.ntmps61, List.size_toArray, List.length_cons, List.length_nil, Nat.reduceAdd, Nat.reduceSub, Array.replicate_succ, Array.replicate_zero, List.push_toArray, List.append_toArray, List.nil_append, List.cons_append]
  gi_wp2
  have bO := Boxed.new w 22 (.slice none 0 0)
  have hB0 : Below w.heap.size w (w.alloc (.cells #[.slice none 0 0] 22)) := (Below.refl _ w).alloc (Nat.le_refl _) _
  have hsz : (w.alloc (.cells #[.slice none 0 0] 22)).heap.size = w.heap.size + 1 := by simp
  obtain ⟨W0, hW0⟩ : ∃ W0, w.alloc (.cells #[.slice none 0 0] 22) = W0 := ⟨_, rfl⟩
  rw [hW0] at bO hB0 hsz ⊢
  clear hW0
  refine wpIn_rangeFunc_ownH hro h1 (gf := gf) (lb := lb) rfl hgf eg
    (hseq W0 hB0) (fun h k => ⟨belowK_t h.1 k.1, h.2.trans k.2⟩) (fun X k o o' q1 q2 q3 q4 => ⟨belowK_b (w := W0) (by omega) X k o o' q1 q2 q3 q4, walksK_b (w := W0) X k o o' q1 q2 q3 q4⟩) (Below.refl _ _) (fun _ => rfl)
    (fun pre W => (∃ v, Boxed W w.heap.size 22 v ∧ W.ownsRow w.heap.size 26 3 v pre.length (flatC pre) ∧ True) ∧ Below w.heap.size w W)
    (fun _ _ _ => False)
    (OwnFrom.and (Go.Own.from (holdsRow_own w.heap.size w.heap.size 22 26 3 (fun pre : List Cel => pre.length) flatC (fun _ _ => True)) _) (ownFrom_below (Nat.le_refl _) (by omega)))
    (fun _ _ _ _ _ hs _ _ => hs)
    ⟨⟨_, bO, World.ownsRow_nil _ _ _ _, trivial⟩, hB0⟩
    (fun x a' W => ∃ Bx, w.heap.size < Bx ∧ BoxedC W Bx x ∧ a' = { tmps := #[.slice none 0 0, .func (.func gf) #[] lb, .pointer (some ⟨w.heap.size, 0, none⟩), undef, .slice none 0 0, .pointer (some ⟨Bx, 0, none⟩), .func (.func gf) #[] lb, celV x, undef, undef, undef, undef, undef], defers := [] })
    (fun x a' _ X Y row hs hg hr => by obtain ⟨Bx, h1, h2, h3⟩ := hs; exact ⟨Bx, h1, BoxedC.own Bx (fun (_ : Unit) => x) () X Y row h2 hg (fun r e => (hr r e).2), h3⟩)
    ?assign ?body ?done ?stop
  case assign =>
    rintro l pre ⟨x, y, z⟩ W K ⟨⟨v, bv, hrow, _⟩, hB⟩ hK
    unfold celV at hK ⊢
    dsimp only at hK ⊢
    gi_wp2
    exact hK _ _ ((KeepsOthers.alloc _ _).from _) ⟨(Below.refl _ W).alloc hB.size _, (KeepsOthers.alloc _ _).walks⟩ ⟨⟨v, bv.alloc _, hrow.alloc _, trivial⟩, hB.alloc hB.size _⟩ ⟨W.heap.size, bv.lt, World.alloc_heap_new W _, rfl⟩
  case body =>
    rintro l pre ⟨x, y, z⟩ a' W hl ⟨r, hr⟩ ⟨⟨v, bv, hrow, _⟩, hB⟩ ⟨Bx, hBx, bx, rfl⟩ hlt
    have cv := bv.cell
    have fv := bv.frozen
    obtain ⟨c0, c1, c2⟩ := bx.cell
    dsimp only at c0 c1 c2
    gi_wp2_with (gi_at_builtin; refine wpListIn_append_own _ rfl _ _ 22 rfl w.heap.size 26 j0 _ 3 24 Try.underlying22 hj hy0 hy1 hy2 rfl (by decide) _ pre.length (flatC pre) rfl (hrow.alloc _) ⟨W.heap.size, 0, none⟩ 1 1 (encC (x, y, z)) rfl rfl (cell_three_newC _ (x, y, z) _) ?cB1 ?cC1 ?cD1 ?cE1 ?_)
    case cB1 => intro u hu; simp [encC] at hu; rcases hu with rfl | rfl | rfl <;> rfl
    case cC1 => unfold maxLen; omega
    case cD1 => omega
    case cE1 => simp; have := hB.size; omega
    intro v' w1 hown' hgrow _
    obtain ⟨g', cap', rfl⟩ := ownsRow_succ hown'
    obtain ⟨hv1, hv2, hr2, hk2, hb2⟩ := bv.appended (by decide) hrow hB.size (Nat.le_refl _) hown' hgrow
    have hc1 := hv1.cell
    have hf1 := hv1.frozen
    clear cv fv c0 c1 c2
    gi_wp2
    exact ⟨hk2.from _, ⟨hb2, hk2.walks⟩, ⟨_, hv2, by rw [flatC_append, List.length_append]; simpa [flatC] using hr2, trivial⟩, hB.trans hb2⟩
  case done =>
    rintro D ys W hD hRs ⟨⟨v, bv, hrow, _⟩, hB⟩ hK
    have cS := bv.cell
    gi_wp2
    refine ⟨by simp, .inl ⟨_, _, rfl, run_takeDeferred hK, ?_⟩⟩
    exact ⟨_, results_tmp rfl _ _ _, v, ys, rfl, hRs, ownsRow_putObj hrow _ hK rfl, hB.trans (belowK_b (w := w) (Nat.le_refl _) W D _ _ (by omega) hK rfl rfl)⟩
  case stop =>
    rintro D c pre W _ _ h _
    exact h.elim
theorem collectP_ok (gf : Nat) (lb : Array Value) (eg : ∀ args w, (callFunc gf args).run Try.prog w = .ok (.enter gf args) w)
    (Rs : List Cel → Prop) (N : Nat) (hlen : N ≤ 1000000) (w : World)
    (hseq : ∀ w0, Below w.heap.size w w0 → SeqStopsK Fence.wide 2 Try.prog gf lb (fun x : Cel => #[celV x]) (KeepsB w.heap.size) Rs (fun _ => True) N w0) :
    Calls Try.prog 46 #[.func (.func gf) #[] lb] w fun e W' => ∃ v xs, e = .returned v ∧ Rs xs ∧ Own W' w.heap.size v xs ∧ Below w.heap.size w W' := by
  have h1 := fun W (hW : Below w.heap.size w W) (hs : W.heap.size = w.heap.size) => callsIn_wide.1 (appendSeqP_in Fence.wide 3 trivial rfl (Nat.le_refl _) gf lb trivial eg Rs N hlen W (fun w0 hw0 => by rw [hs] at hw0 ⊢; exact hseq w0 (hW.trans hw0)))
  have h2 := h1 w (Below.refl _ _) rfl
  clear h1 hseq
  go_enter Try.func46, Try.ntmps46
  go_wp2_with (go_at_call 61; refine h2.mono ?_; rintro e w2 ⟨v, xs, rfl, hRs, hown, hB⟩)
  go_ret
  exact ⟨_, xs, rfl, hRs, hown, hB⟩
end Go.Proofs
end
