import Derived.Test.YtpjmobpmpghpeaaGreatDoorShdU
import Derived.Test.YtpjmobpmpghpeaaGreatDoorHeldF
section
/- TopShadeTabs: three guides are made, in any order. -/
namespace Go.Proofs
open Go.RowKit Go.MapKept
set_option maxHeartbeats 16000000
set_option maxRecDepth 1000000
theorem wanted_noneS {o : Oper} {ops : Array Oper} {t : Array Value} (h : o.guard = none) : Region.wanted o (yielded ops t) = true := by
  simp [Region.wanted, h]
/-- A new guide, empty. -/
def NewG (b : Nat) (B : Nat) (W : World) : Prop := RowK W 50 b [.int .i64 0, .int .i64 0, .int .i64 0, .slice none 0 0] ∧ B ≤ b
theorem NewG.alloc {b B : Nat} {W : World} (h : NewG b B W) (o : Obj) : NewG b B (W.alloc o) := ⟨h.1.keep (Below.heap_alloc _ _ _ h.1.lt), h.2⟩
def zG : Obj := .cells #[.int .i64 0, .int .i64 0, .int .i64 0, .slice none 0 0] 50
theorem NewG.new {B : Nat} {W : World} (h : B ≤ W.heap.size) : NewG W.heap.size B (W.alloc zG) := ⟨heap_alloc_new W zG, h⟩
def ptrG (b : Nat) : Value := .pointer (some ⟨b, 0, none⟩)
theorem put_comm (a : Act) (i j : Nat) (h : i ≠ j) (u v : Value) : (a.put (some i) u).put (some j) v = (a.put (some j) v).put (some i) u := by
  unfold Act.put
  simp only
  rw [Array.setIfInBounds_comm _ _ h]
theorem alloc3 {md : Region.Mode} {ops : Array Oper} {Q : Exit → Act → World → Prop} {S : World → Prop} {o3 o4 o5 : Oper} (W1 : World) (a : Act) (kS : ∀ V, Below W1.heap.size W1 V → S V)
    (h3 : ops[3]? = some o3) (g3 : o3.guard = none) (d3 : o3.dst = some 8) (e3 : ∀ (a : Act) (w : World), (execOp a.eval o3).run Tryz.prog w = .ok (.value (ptrG w.heap.size)) (w.alloc zG))
    (h4 : ops[4]? = some o4) (g4 : o4.guard = none) (d4 : o4.dst = some 9) (e4 : ∀ (a : Act) (w : World), (execOp a.eval o4).run Tryz.prog w = .ok (.value (ptrG w.heap.size)) (w.alloc zG))
    (h5 : ops[5]? = some o5) (g5 : o5.guard = none) (d5 : o5.dst = some 10) (e5 : ∀ (a : Act) (w : World), (execOp a.eval o5).run Tryz.prog w = .ok (.value (ptrG w.heap.size)) (w.alloc zG))
    (r0 : Region.ready md ops #[true, true, true, false, false, false, false, false, false] = [3, 4, 5])
    (r3 : Region.ready md ops #[true, true, true, true, false, false, false, false, false] = [4, 5])
    (r4 : Region.ready md ops #[true, true, true, false, true, false, false, false, false] = [3, 5])
    (r5 : Region.ready md ops #[true, true, true, false, false, true, false, false, false] = [3, 4])
    (r34 : Region.ready md ops #[true, true, true, true, true, false, false, false, false] = [5])
    (r35 : Region.ready md ops #[true, true, true, true, false, true, false, false, false] = [4])
    (r45 : Region.ready md ops #[true, true, true, false, true, true, false, false, false] = [3])
    (fin : ∀ (b3 b4 b5 : Nat) (W : World), NewG b3 W1.heap.size W → NewG b4 W1.heap.size W → NewG b5 W1.heap.size W → b3 ≠ b4 → b3 ≠ b5 → b4 ≠ b5 → Below W1.heap.size W1 W → wpAnyH Tryz.prog md ops Q S 3 #[true, true, true, true, true, true, false, false, false] (((a.put (some 8) (ptrG b3)).put (some 9) (ptrG b4)).put (some 10) (ptrG b5)) W)
    (W : World) (hW : Below W1.heap.size W1 W) : wpAnyH Tryz.prog md ops Q S 6 #[true, true, true, false, false, false, false, false, false] a W := by
  have st34 : ∀ (b3 b4 : Nat) (W : World), NewG b3 W1.heap.size W → NewG b4 W1.heap.size W → b3 ≠ b4 → Below W1.heap.size W1 W → wpAnyH Tryz.prog md ops Q S 4 #[true, true, true, true, true, false, false, false, false] ((a.put (some 8) (ptrG b3)).put (some 9) (ptrG b4)) W := by
    intro b3 b4 W f0 f1 f2 hW
    refine wpAnyH_ready r34 (by simp) ?_
    refine AllReadyH.cons h5 (fun K hK => ?_) AllReadyH.nil
    · rw [if_pos (wanted_noneS g5)]
      unfold Oper.wp
      rw [e5]
      show K (Act.put _ o5.dst _) _
      rw [d5]
      have hW2 := hW.alloc hW.size zG
      refine hK.out _ _ (kS _ hW2) (fun _ => ?_)
      exact fin _ _ _ _ (f0.alloc _) (f1.alloc _) (NewG.new hW.size) f2 (Nat.ne_of_lt f0.1.lt) (Nat.ne_of_lt f1.1.lt) hW2
  have st35 : ∀ (b3 b5 : Nat) (W : World), NewG b3 W1.heap.size W → NewG b5 W1.heap.size W → b3 ≠ b5 → Below W1.heap.size W1 W → wpAnyH Tryz.prog md ops Q S 4 #[true, true, true, true, false, true, false, false, false] ((a.put (some 8) (ptrG b3)).put (some 10) (ptrG b5)) W := by
    intro b3 b5 W f0 f1 f2 hW
    refine wpAnyH_ready r35 (by simp) ?_
    refine AllReadyH.cons h4 (fun K hK => ?_) AllReadyH.nil
    · rw [if_pos (wanted_noneS g4)]
      unfold Oper.wp
      rw [e4]
      show K (Act.put _ o4.dst _) _
      rw [d4]
      have hW2 := hW.alloc hW.size zG
      refine hK.out _ _ (kS _ hW2) (fun _ => ?_)
      rw [put_comm _ 10 9 (by decide)]
      exact fin _ _ _ _ (f0.alloc _) (NewG.new hW.size) (f1.alloc _) (Nat.ne_of_lt f0.1.lt) f2 (Ne.symm (Nat.ne_of_lt f1.1.lt)) hW2
  have st45 : ∀ (b4 b5 : Nat) (W : World), NewG b4 W1.heap.size W → NewG b5 W1.heap.size W → b4 ≠ b5 → Below W1.heap.size W1 W → wpAnyH Tryz.prog md ops Q S 4 #[true, true, true, false, true, true, false, false, false] ((a.put (some 9) (ptrG b4)).put (some 10) (ptrG b5)) W := by
    intro b4 b5 W f0 f1 f2 hW
    refine wpAnyH_ready r45 (by simp) ?_
    refine AllReadyH.cons h3 (fun K hK => ?_) AllReadyH.nil
    · rw [if_pos (wanted_noneS g3)]
      unfold Oper.wp
      rw [e3]
      show K (Act.put _ o3.dst _) _
      rw [d3]
      have hW2 := hW.alloc hW.size zG
      refine hK.out _ _ (kS _ hW2) (fun _ => ?_)
      rw [put_comm _ 10 8 (by decide)]
      rw [put_comm a 9 8 (by decide)]
      exact fin _ _ _ _ (NewG.new hW.size) (f0.alloc _) (f1.alloc _) (Ne.symm (Nat.ne_of_lt f0.1.lt)) (Ne.symm (Nat.ne_of_lt f1.1.lt)) f2 hW2
  have st3 : ∀ (b3 : Nat) (W : World), NewG b3 W1.heap.size W → Below W1.heap.size W1 W → wpAnyH Tryz.prog md ops Q S 5 #[true, true, true, true, false, false, false, false, false] (a.put (some 8) (ptrG b3)) W := by
    intro b3 W f0 hW
    refine wpAnyH_ready r3 (by simp) ?_
    refine AllReadyH.cons h4 (fun K hK => ?_) (AllReadyH.cons h5 (fun K hK => ?_) AllReadyH.nil)
    · rw [if_pos (wanted_noneS g4)]
      unfold Oper.wp
      rw [e4]
      show K (Act.put _ o4.dst _) _
      rw [d4]
      have hW2 := hW.alloc hW.size zG
      refine hK.out _ _ (kS _ hW2) (fun _ => ?_)
      exact st34 _ _ _ (f0.alloc _) (NewG.new hW.size) (Nat.ne_of_lt f0.1.lt) hW2
    · rw [if_pos (wanted_noneS g5)]
      unfold Oper.wp
      rw [e5]
      show K (Act.put _ o5.dst _) _
      rw [d5]
      have hW2 := hW.alloc hW.size zG
      refine hK.out _ _ (kS _ hW2) (fun _ => ?_)
      exact st35 _ _ _ (f0.alloc _) (NewG.new hW.size) (Nat.ne_of_lt f0.1.lt) hW2
  have st4 : ∀ (b4 : Nat) (W : World), NewG b4 W1.heap.size W → Below W1.heap.size W1 W → wpAnyH Tryz.prog md ops Q S 5 #[true, true, true, false, true, false, false, false, false] (a.put (some 9) (ptrG b4)) W := by
    intro b4 W f0 hW
    refine wpAnyH_ready r4 (by simp) ?_
    refine AllReadyH.cons h3 (fun K hK => ?_) (AllReadyH.cons h5 (fun K hK => ?_) AllReadyH.nil)
    · rw [if_pos (wanted_noneS g3)]
      unfold Oper.wp
      rw [e3]
      show K (Act.put _ o3.dst _) _
      rw [d3]
      have hW2 := hW.alloc hW.size zG
      refine hK.out _ _ (kS _ hW2) (fun _ => ?_)
      rw [put_comm _ 9 8 (by decide)]
      exact st34 _ _ _ (NewG.new hW.size) (f0.alloc _) (Ne.symm (Nat.ne_of_lt f0.1.lt)) hW2
    · rw [if_pos (wanted_noneS g5)]
      unfold Oper.wp
      rw [e5]
      show K (Act.put _ o5.dst _) _
      rw [d5]
      have hW2 := hW.alloc hW.size zG
      refine hK.out _ _ (kS _ hW2) (fun _ => ?_)
      exact st45 _ _ _ (f0.alloc _) (NewG.new hW.size) (Nat.ne_of_lt f0.1.lt) hW2
  have st5 : ∀ (b5 : Nat) (W : World), NewG b5 W1.heap.size W → Below W1.heap.size W1 W → wpAnyH Tryz.prog md ops Q S 5 #[true, true, true, false, false, true, false, false, false] (a.put (some 10) (ptrG b5)) W := by
    intro b5 W f0 hW
    refine wpAnyH_ready r5 (by simp) ?_
    refine AllReadyH.cons h3 (fun K hK => ?_) (AllReadyH.cons h4 (fun K hK => ?_) AllReadyH.nil)
    · rw [if_pos (wanted_noneS g3)]
      unfold Oper.wp
      rw [e3]
      show K (Act.put _ o3.dst _) _
      rw [d3]
      have hW2 := hW.alloc hW.size zG
      refine hK.out _ _ (kS _ hW2) (fun _ => ?_)
      rw [put_comm _ 10 8 (by decide)]
      exact st35 _ _ _ (NewG.new hW.size) (f0.alloc _) (Ne.symm (Nat.ne_of_lt f0.1.lt)) hW2
    · rw [if_pos (wanted_noneS g4)]
      unfold Oper.wp
      rw [e4]
      show K (Act.put _ o4.dst _) _
      rw [d4]
      have hW2 := hW.alloc hW.size zG
      refine hK.out _ _ (kS _ hW2) (fun _ => ?_)
      rw [put_comm _ 10 9 (by decide)]
      exact st45 _ _ _ (NewG.new hW.size) (f0.alloc _) (Ne.symm (Nat.ne_of_lt f0.1.lt)) hW2
  refine wpAnyH_ready r0 (by simp) ?_
  refine AllReadyH.cons h3 (fun K hK => ?_) (AllReadyH.cons h4 (fun K hK => ?_) (AllReadyH.cons h5 (fun K hK => ?_) AllReadyH.nil))
  · rw [if_pos (wanted_noneS g3)]
    unfold Oper.wp
    rw [e3]
    show K (Act.put _ o3.dst _) _
    rw [d3]
    have hW2 := hW.alloc hW.size zG
    refine hK.out _ _ (kS _ hW2) (fun _ => ?_)
    exact st3 _ _ (NewG.new hW.size) hW2
  · rw [if_pos (wanted_noneS g4)]
    unfold Oper.wp
    rw [e4]
    show K (Act.put _ o4.dst _) _
    rw [d4]
    have hW2 := hW.alloc hW.size zG
    refine hK.out _ _ (kS _ hW2) (fun _ => ?_)
    exact st4 _ _ (NewG.new hW.size) hW2
  · rw [if_pos (wanted_noneS g5)]
    unfold Oper.wp
    rw [e5]
    show K (Act.put _ o5.dst _) _
    rw [d5]
    have hW2 := hW.alloc hW.size zG
    refine hK.out _ _ (kS _ hW2) (fun _ => ?_)
    exact st5 _ _ (NewG.new hW.size) hW2
end Go.Proofs
end

section
/- TopShadeTabs: append of tabs. -/
namespace Go.Proofs
open Go.RowKit Go.MapKept
set_option maxHeartbeats 16000000
set_option maxRecDepth 1000000
theorem tab_flat {w : World} {b o : Nat} {l : List TabT} (h : TabAt w b o l) : ∀ (j : Nat) (u : Value), (flatT l)[j]? = some u → w.cell? ⟨b, o + j, none⟩ = some u := fun j u hj => by
  have hlen : j < l.length * 4 := by rw [← flatT_len]; exact (List.getElem?_eq_some_iff.1 hj).1
  have hq : j / 4 < l.length := by omega
  obtain ⟨t, ht⟩ : ∃ t, l[j / 4]? = some t := ⟨_, List.getElem?_eq_getElem hq⟩
  obtain ⟨f0, f1, f2, f3⟩ := flatT_get ht
  obtain ⟨c0, c1, c2, c3⟩ := h _ _ ht
  rcases (show j % 4 = 0 ∨ j % 4 = 1 ∨ j % 4 = 2 ∨ j % 4 = 3 by omega) with hr | hr | hr | hr
  · rw [show j / 4 * 4 = j by omega, hj] at f0
    rw [show o + j / 4 * 4 = o + j by omega] at c0
    rw [Option.some.inj f0]; exact c0
  · rw [show j / 4 * 4 + 1 = j by omega, hj] at f1
    rw [show o + j / 4 * 4 + 1 = o + j by omega] at c1
    rw [Option.some.inj f1]; exact c1
  · rw [show j / 4 * 4 + 2 = j by omega, hj] at f2
    rw [show o + j / 4 * 4 + 2 = o + j by omega] at c2
    rw [Option.some.inj f2]; exact c2
  · rw [show j / 4 * 4 + 3 = j by omega, hj] at f3
    rw [show o + j / 4 * 4 + 3 = o + j by omega] at c3
    rw [Option.some.inj f3]; exact c3
theorem SlT.addr {w : World} {A : Option Addr} {n cap : Nat} {l : List TabT} (h : SlT w (.slice A n cap) l) (hp : 0 < l.length) : ∃ b o, A = some ⟨b, o, none⟩ ∧ b < w.heap.size ∧ TabAt w b o l := by
  rcases h with ⟨_, rfl⟩ | ⟨a, cap', e, h⟩
  · exact absurd hp (Nat.not_lt_zero _)
  · injection e with e1 e2 _
    obtain ⟨h1, h2, h3⟩ := h (fun e => by subst e; exact absurd hp (Nat.not_lt_zero _))
    obtain ⟨b, o, s⟩ := a
    obtain rfl : s = none := h1
    exact ⟨b, o, e1, h2, h3⟩
theorem addr_add (b o j : Nat) : (⟨b, o, none⟩ : Addr).add j = ⟨b, o + j, none⟩ := by
  unfold Addr.add
  split
  · simp_all
  · rfl
/-- append of some tabs to a row of the call's own. -/
theorem run_append_tab (w : World) (ty : TypeId) (B : Nat) (v : Value) (l m : List TabT) (hown : OwnT 76 w B v l) (b o c : Nat) (hm : TabAt w b o m) (hn : l.length + m.length ≤ 100000) (hB : B ≤ w.heap.size) :
    ∃ A2 c2 w', (Builtin.append_ #[48, 48] ty #[v, .slice (some ⟨b, o, none⟩) m.length c]).run Tryz.prog w = .ok (.slice A2 (l.length + m.length) c2) w' ∧ OwnT 76 w' B (.slice A2 (l.length + m.length) c2) (l ++ m) ∧ w.grownBy w' v.ownBlock ∧ ((Value.slice A2 (l.length + m.length) c2).ownBlock = v.ownBlock ∨ (Value.slice A2 (l.length + m.length) c2).ownBlock = some w.heap.size) := by
  obtain ⟨j0, hj, hy0, hy1, hy2⟩ := info_parts (P := Tryz.prog) (e := 76) (z := .agg #[.string ⟨#[]⟩, .int .i64 0, .int .i64 0, .int .i64 0]) (size := 4) (bytes := 40) (by kernel_rfl)
  obtain ⟨v', w', hr, h2, h3, h4, h5⟩ := run_append_own_at (P := Tryz.prog) w B 48 ty 76 j0 _ 4 40 Tryz.underlying48 hj hy0 hy1 hy2 rfl (by decide) v l.length (flatT l) hown ⟨b, o, none⟩ m.length c (flatT m) (flatT_len m) (fun j u hu => by rw [addr_add]; exact tab_flat hm j u hu) flatT_one (by unfold maxLen; omega) (by omega) hB
  have hO : OwnT 76 w' B v' (l ++ m) := by
    unfold OwnT
    rw [List.length_append, flatT_append]
    exact h2
  obtain ⟨A2, c2, hv⟩ := hO.sl.form
  rw [List.length_append] at hv
  subst hv
  exact ⟨A2, c2, w', hr, hO, h3, h5⟩
theorem own_empty (W : World) : OwnT 76 (W.alloc (.cells #[] 76)) W.heap.size (.slice (some ⟨W.heap.size, 0, none⟩) 0 0) [] := World.ownsRow_lit W #[] 0 (Nat.le_refl _) (Nat.zero_le _) rfl
end Go.Proofs
end
