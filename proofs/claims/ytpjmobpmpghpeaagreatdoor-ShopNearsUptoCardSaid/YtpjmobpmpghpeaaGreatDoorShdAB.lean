/- TopShadeTabs: the state of the first loop. -/
import Derived.Test.YtpjmobpmpghpeaaGreatDoorShdZ
namespace Go.Proofs
open Go.RowKit Go.MapKept
set_option maxHeartbeats 4000000
set_option maxRecDepth 1000000
structure L1 (Vg : World) (x y z : Int) (b8 b9 b10 : Nat) (u8 u9 uP : Value) (L8 L9 l : List TabT) (W : World) : Prop where
  r8 : RowK W 50 b8 [.int .i64 x, .int .i64 y, .int .i64 z, u8]
  r9 : RowK W 50 b9 [.int .i64 x, .int .i64 y, .int .i64 z, u9]
  r10 : RowK W 50 b10 [.int .i64 x, .int .i64 y, .int .i64 z, uP]
  o8 : OwnT 76 W Vg.heap.size u8 L8
  o9 : OwnT 76 W Vg.heap.size u9 L9
  oP : OwnT 76 W Vg.heap.size uP l
  d : ∀ g, u8.ownBlock = some g → u9.ownBlock ≠ some g
  e8 : ∀ g, u8.ownBlock = some g → uP.ownBlock ≠ some g
  e9 : ∀ g, u9.ownBlock = some g → uP.ownBlock ≠ some g
  keep : Below Vg.heap.size Vg W
theorem L1.swap {Vg : World} {x y z : Int} {b8 b9 b10 : Nat} {u8 u9 uP : Value} {L8 L9 l : List TabT} {W : World} (h : L1 Vg x y z b8 b9 b10 u8 u9 uP L8 L9 l W) : L1 Vg x y z b9 b8 b10 u9 u8 uP L9 L8 l W :=
  ⟨h.r9, h.r8, h.r10, h.o9, h.o8, h.oP, fun g e e' => h.d g e' e, h.e9, h.e8, h.keep⟩
theorem L1.below {Vg : World} {x y z : Int} {b8 b9 b10 : Nat} {u8 u9 uP : Value} {L8 L9 l : List TabT} {W W' : World} (h : L1 Vg x y z b8 b9 b10 u8 u9 uP L8 L9 l W) (hb : Below W.heap.size W W') : L1 Vg x y z b8 b9 b10 u8 u9 uP L8 L9 l W' :=
  ⟨h.r8.below hb, h.r9.below hb, h.r10.below hb, h.o8.keep hb, h.o9.keep hb, h.oP.keep hb, h.d, h.e8, h.e9, h.keep.trans (hb.mono h.keep.size)⟩
theorem L1.put {Vg : World} {x y z : Int} {b8 b9 b10 : Nat} {u8 u9 uP : Value} {L8 L9 l L8' : List TabT} {W W2 : World} {A2 : Option Addr} {n2 c2 : Nat} (h : L1 Vg x y z b8 b9 b10 u8 u9 uP L8 L9 l W) (d89 : b8 ≠ b9) (d8a : b8 ≠ b10) (l8 : Vg.heap.size ≤ b8)
    (hown : OwnT 76 W2 Vg.heap.size (.slice A2 n2 c2) L8') (hg : W.grownBy W2 u8.ownBlock) (hv : (Value.slice A2 n2 c2).ownBlock = u8.ownBlock ∨ (Value.slice A2 n2 c2).ownBlock = some W.heap.size) :
    L1 Vg x y z b8 b9 b10 (.slice A2 n2 c2) u9 uP L8' L9 l (W2.setCell ⟨b8, 3, none⟩ (.slice A2 n2 c2)) := by
  have hk : ∀ g, g < W.heap.size → u8.ownBlock ≠ some g → W2.heap[g]? = W.heap[g]? := fun g hg' hne => hg.block g hg' (fun e => hne e.symm)
  have q8 := h.r8.keep (hk _ h.r8.lt (h.o8.ne_ h.r8 (by decide)))
  have q9 := h.r9.keep (hk _ h.r9.lt (h.o8.ne_ h.r9 (by decide)))
  have q10 := h.r10.keep (hk _ h.r10.lt (h.o8.ne_ h.r10 (by decide)))
  have nv := hown.ne_ q8 (by decide)
  have n9 := h.o9.ne_ h.r8 (by decide)
  have nP := h.oP.ne_ h.r8 (by decide)
  have hs : ∀ g, g ≠ b8 → (W2.setCell ⟨b8, 3, none⟩ (.slice A2 n2 c2)).heap[g]? = W2.heap[g]? := fun g hg' => Below.heap_setCell W2 ⟨b8, 3, none⟩ _ g hg'
  refine ⟨q8.set 3 _, q9.keep (hs _ (Ne.symm d89)), q10.keep (hs _ (Ne.symm d8a)), hown.keepB fun g e => hs g (fun e' => nv (by rw [e, e'])), ?_, ?_, ?_, ?_, h.e9, ?_⟩
  · exact h.o9.keepB fun g e => (hs g (fun e' => n9 (by rw [e, e']))).trans (hk g (h.o9.lt g e).2 (fun e' => h.d g e' e))
  · exact h.oP.keepB fun g e => (hs g (fun e' => nP (by rw [e, e']))).trans (hk g (h.oP.lt g e).2 (fun e' => h.e8 g e' e))
  · intro g e e'
    rcases hv with hv | hv
    · exact h.d g (hv.symm.trans e) e'
    · have := (h.o9.lt g e').2
      rw [hv] at e
      obtain rfl := Option.some.inj e
      omega
  · intro g e e'
    rcases hv with hv | hv
    · exact h.e8 g (hv.symm.trans e) e'
    · have := (h.oP.lt g e').2
      rw [hv] at e
      obtain rfl := Option.some.inj e
      omega
  · exact (h.keep.grown hg h.keep.size (fun g e => (h.o8.lt g e).1)).setCell (p := ⟨b8, 3, none⟩) l8 _
def darkT (t : TabT) : TabT := (t.1, lessC t.2)
theorem row_tab {W : World} {g : Nat} {t : TabT} (h : RowK W 76 g (encT t)) : TabAt W g 0 [t] := fun i t' hi => by
  cases i with
  | zero =>
    obtain rfl : t = t' := by simpa using hi
    exact ⟨h.cell (by rfl), h.cell (by rfl), h.cell (by rfl), h.cell (by rfl)⟩
  | succ i => simp at hi
end Go.Proofs
