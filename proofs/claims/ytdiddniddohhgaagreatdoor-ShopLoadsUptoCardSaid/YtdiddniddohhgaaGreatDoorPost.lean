/- What a law's row asks behind the call, from the contract 'true, and all that was there is as it was'. -/
import Derived.Test.YtdiddniddohhgaaGreatDoorRows
import Derived.WalkKit
import Derived.ProofKit
import Derived.OpenShut
namespace Go.Proofs.YtdiddniddohhgaaGreatDoor
open Go.ChangeShapes Go.WideShapes Go.ChangeAt Go.RowKit
theorem law_post {H : Type} {enc : TypeId × Value → H} {P : Program} {f : Func} {s : ChangeSpec} {o1 o2 o3 o4 : Bool} {W W' : World} {args : Array Value} {ds : List (DataW H)} {pl : List MemPlace} {T : TypeId}
    (hW : DataW.Whole enc P f.params.toList s.vars o1 W args.toList ds [] pl) (hT : f.resultTypes = #[T]) (hv : s.vars = [])
    (hB : P.underlying T = some .bool) (hs : s.fn H (ds ++ []) = { results := [.lit (.bool true)], args := ds })
    (ha : ∀ sp : Nat → Bool, (∀ p ∈ pl, sp p.block = true) → DataW.TrodAll enc P W' 0 sp true f.params.toList args.toList ds pl)
    (hb : Below W.heap.size W W') : s.post enc P f o1 o2 o3 o4 W args (.bool true) W' := by
  have hin : ∀ p, p ∈ pl → p.block < W.heap.size := fun p hp => hW.lt p hp
  have hr : ∀ (b : Nat) (sp : Nat → Bool) (h : Bool), DataW.TrodAll enc P W' b sp h f.resultTypes.toList ((Value.bool true).resultList f.resultTypes.size) (s.fn H (ds ++ [])).results [] := fun b sp h => by
    rw [hT, hs]
    exact trodAll_cons_mk (shut_bool hB _) trodAll_mk0
  have ha' : ∀ sp : Nat → Bool, (∀ p ∈ pl, sp p.block = true) → DataW.TrodAll enc P W' 0 sp true f.params.toList args.toList (s.fn H (ds ++ [])).args pl := by
    rw [hs]
    exact ha
  have hvs : ∀ sp : Nat → Bool, DataW.TrodVars enc P W' sp s.vars (s.fn H (ds ++ [])).vars [] := fun sp => by
    rw [hs, hv]
    exact rfl
  refine ⟨ds, [], pl, [], pl, [], hW, hr _ _ _, ha' _ (fun p hp => decide_eq_true (hin p hp)), hvs _, World.keptBut_mono (fun p hp => ⟨hp, .inr (.inl hp)⟩) (hb.frame _), fun _ => ⟨?_, ?_⟩⟩
  · exact ok_one hT rfl (okWide_bool_mk hB _)
  · have hall := trodAll_append (ha' (fun _ => true) (fun _ _ => rfl)) (hr 0 (fun _ => true) true)
    obtain ⟨_, _, _, _, _, hz, hn⟩ := hW
    refine ⟨_, _, [] ++ pl ++ [], ⟨[] ++ pl, [], hall, hvs _, rfl, fun b off hp => ?_, fun e => ?_⟩, fun p hp _ => ?_⟩
    · have hp' : MemPlace.cell b off ∈ pl := by simpa using hp
      rw [hb.frozen (p := ⟨b, off, none⟩) (hin _ hp')]
      exact hz b off hp'
    · have := hn e
      simpa using this
    · simpa using hp
end Go.Proofs.YtdiddniddohhgaaGreatDoor
