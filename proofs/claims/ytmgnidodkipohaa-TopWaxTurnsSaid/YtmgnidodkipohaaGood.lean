import Derived.Test.YtmgnidodkipohaaPure2
namespace Go.Proofs
open Go.RowKit
set_option maxRecDepth 1000000
set_option maxHeartbeats 4000000
def Near (c : Cel) (b : Int) : Prop := (-b ≤ c.1 ∧ c.1 ≤ b) ∧ (-b ≤ c.2.1 ∧ c.2.1 ≤ b) ∧ (-b ≤ c.2.2 ∧ c.2.2 ≤ b)
/-- A set of cells within b of the middle. -/
structure Good (l : List Cel) (b : Int) : Prop where
  nd : l.Nodup
  asc : Asc l
  near : ∀ c ∈ l, Near c b
theorem Near.mono {c : Cel} {a b : Int} (h : Near c a) (hab : a ≤ b) : Near c b := by
  unfold Near at *
  omega
theorem Good.mono {l : List Cel} {a b : Int} (h : Good l a) (hab : a ≤ b) : Good l b := ⟨h.nd, h.asc, fun c hc => (h.near c hc).mono hab⟩
theorem Good.sort {l : List Cel} {b : Int} (h : l.Nodup) (hn : ∀ c ∈ l, Near c b) : Good (sortC l) b := ⟨nodup_sortC h, asc_sortC h, fun c hc => hn c (mem_sortC.1 hc)⟩
theorem Good.fit {l : List Cel} {b : Int} (h : Good l b) (hb : b ≤ 1000) : ∀ c ∈ l, vecI c 1000 = 0 := fun c hc => vec_of ((h.near c hc).mono hb)
theorem farB_near {c : Cel} {b : Int} (h : Near c b) (hb : b ≤ 1000) : farB c.1 1000 = false ∧ farB c.2.1 1000 = false ∧ farB c.2.2 1000 = false := by
  unfold Near at h
  unfold farB
  refine ⟨decide_eq_false ?_, decide_eq_false ?_, decide_eq_false ?_⟩ <;> omega
theorem turnB_near {k : Nat} {o p : Cel} {b d : Int} (hp : Near p b) (ho : Near o d) : Near (turnB k o p) (b + 2 * d) := by
  unfold Near at *
  have e : ∀ a, -(b + d) ≤ pickI (p.1 - o.1) (p.2.1 - o.2.1) (p.2.2 - o.2.2) a ∧ pickI (p.1 - o.1) (p.2.1 - o.2.1) (p.2.2 - o.2.2) a ≤ b + d := pickI_le (by omega) (by omega) (by omega)
  have e1 := e (turnA k).1
  have e2 := e (turnA k).2.1
  have e3 := e (turnA k).2.2
  unfold turnB turnC
  dsimp only
  omega
theorem mirrorC_near {j : Nat} {p : Cel} {b : Int} (hp : Near p b) : Near (mirrorC j p) b := by
  unfold Near mirrorC at *
  split <;> dsimp only <;> omega
theorem shiftC_near {o p : Cel} {b d : Int} (hp : Near p b) (ho : Near o d) : Near (shiftC o p) (b + d) := by
  unfold Near shiftC at *
  dsimp only
  omega
theorem near_map {f : Cel → Cel} {l : List Cel} {b : Int} (h : ∀ c ∈ l, Near (f c) b) : ∀ c ∈ l.map f, Near c b := fun c hc => by
  obtain ⟨p, hp, rfl⟩ := List.mem_map.1 hc
  exact h p hp
theorem gTurn {l : List Cel} {b d : Int} (hg : Good l b) {o : Cel} (ho : Near o d) (hd : b + 2 * d ≤ 1000) (hb0 : b ≤ 1000) (hd0 : d ≤ 1000) (hn : l.length ≤ 4096) {k : Nat} (hk : k < 24) {blk off cap : Nat} {w : World} (hl : RowAt w blk off l) (hb : blk < w.heap.size) :
    Good (sortC (l.map (turnB k o))) (b + 2 * d) ∧ Calls Try.prog 21 #[.slice (some ⟨blk, off, none⟩) l.length cap, .int .i64 k, .agg #[.int .i64 o.1, .int .i64 o.2.1, .int .i64 o.2.2]] w fun e w' => ∃ B, e = .returned (.tuple #[.slice (some ⟨B, 0, none⟩) l.length l.length, .int .i64 0]) ∧ w.heap.size ≤ B ∧ Filled w' B l.length 32 (sortC (l.map (turnB k o))) ∧ Below w.heap.size w w' := by
  have hnd := nodup_map (turnB_inj hk o) hg.nd
  have hnr := near_map (f := turnB k o) fun c hc => turnB_near (k := k) (hg.near c hc) ho
  exact ⟨.sort hnd hnr, turn_ok l blk off cap k hk o w hl hb hn (hg.fit hb0) hg.asc (vec_of (ho.mono hd0)) (turnA_lt hk) (ho.mono hd0) (fun c hc => vec_of ((hnr c hc).mono hd)) hnd (fun c hc => (hg.near c hc).mono hb0)⟩
theorem gMirror {l : List Cel} {b : Int} (hg : Good l b) (hb0 : b ≤ 1000) (hn : l.length ≤ 4096) {j : Nat} (hj : j < 3) {blk off cap : Nat} {w : World} (hl : RowAt w blk off l) (hb : blk < w.heap.size) :
    Good (sortC (l.map (mirrorC j))) b ∧ Calls Try.prog 23 #[.slice (some ⟨blk, off, none⟩) l.length cap, .int .i64 j, .int .i64 0] w fun e w' => ∃ B, e = .returned (.tuple #[.slice (some ⟨B, 0, none⟩) l.length l.length, .int .i64 0]) ∧ w.heap.size ≤ B ∧ Filled w' B l.length 32 (sortC (l.map (mirrorC j))) ∧ Below w.heap.size w w' := by
  have hnd := nodup_map (mirrorC_inj j) hg.nd
  have hnr := near_map (f := mirrorC j) fun c hc => mirrorC_near (j := j) (hg.near c hc)
  exact ⟨.sort hnd hnr, mirror_ok l blk off cap j hj w hl hb hn (hg.fit hb0) hg.asc (fun c hc => vec_of ((hnr c hc).mono hb0)) hnd (fun c hc => (hg.near c hc).mono (by omega))⟩
theorem gShift {l : List Cel} {b d : Int} (hg : Good l b) {o : Cel} (ho : Near o d) (hd : b + d ≤ 1000) (hb0 : b ≤ 1000) (hd0 : d ≤ 2000) (hn : l.length ≤ 4096) {blk off cap : Nat} {w : World} (hl : RowAt w blk off l) (hb : blk < w.heap.size) :
    Good (sortC (l.map (shiftC o))) (b + d) ∧ Calls Try.prog 24 #[.slice (some ⟨blk, off, none⟩) l.length cap, .agg #[.int .i64 o.1, .int .i64 o.2.1, .int .i64 o.2.2]] w fun e w' => ∃ B, e = .returned (.tuple #[.slice (some ⟨B, 0, none⟩) l.length l.length, .int .i64 0]) ∧ w.heap.size ≤ B ∧ Filled w' B l.length 32 (sortC (l.map (shiftC o))) ∧ Below w.heap.size w w' := by
  have hnd := nodup_map (shiftC_inj o) hg.nd
  have hnr := near_map (f := shiftC o) fun c hc => shiftC_near (hg.near c hc) ho
  exact ⟨.sort hnd hnr, shift_ok l blk off cap o w hl hb hn (hg.fit hb0) hg.asc (vec_of (ho.mono hd0)) (fun c hc => vec_of ((hnr c hc).mono hd)) hnd (fun c hc => by
    have h1 := hg.near c hc
    unfold Near at h1 ho
    omega)⟩
theorem axes_good : Good axesL 3 := by
  refine ⟨by decide, ?_, by unfold Near axesL; decide⟩
  intro i a b ha hb
  match i, ha, hb with
  | 0, ha, hb => simp [axesL] at ha hb; subst ha hb; decide
  | 1, ha, hb => simp [axesL] at ha hb; subst ha hb; decide
  | 2, ha, hb => simp [axesL] at ha hb; subst ha hb; decide
  | i + 3, ha, hb => simp [axesL] at hb
end Go.Proofs
