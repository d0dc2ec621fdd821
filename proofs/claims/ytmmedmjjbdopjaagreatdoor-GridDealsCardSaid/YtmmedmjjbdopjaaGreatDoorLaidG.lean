import Derived.Test.YtmmedmjjbdopjaaGreatDoorRows
import Derived.WalkKit
import Derived.ProofKit
import Derived.OpenShut
import Derived.Test.YtmmedmjjbdopjaaGreatDoorAwk
import Derived.Lib.LaidTab
import Derived.Stop.LaidErr
import Derived.MakeChecks
import Derived.LaidMore
section
/- What a law's row asks behind the call, from the contract 'true, and all that was there is as it was'. -/
namespace Go.Proofs.YtmmedmjjbdopjaaGreatDoor
open Go.ChangeShapes Go.WideShapes Go.ChangeAt Go.RowKit
theorem law_post {H : Type} {enc : TypeId × Value → H} {P : Program} {f : Func} {s : ChangeSpec} {o1 o2 o3 o4 : Bool} {W W' : World} {args : Array Value} {ds : List (DataW H)} {pl : List MemPlace} {T : TypeId}
    (hW : DataW.Whole enc P f.params.toList s.vars o1 W args.toList ds [] pl) (hT : f.resultTypes = #[T]) (hv : s.vars = [])
    (hB : P.underlying T = some .bool) (hs : s.fn H (ds ++ []) = { results := [.lit (.bool true)], args := ds })
    (ha : ∀ sp : Nat → Bool, (∀ p ∈ pl, sp p.block = true) → DataW.TrodAll enc P W' 0 sp true f.params.toList args.toList ds pl)
    (hb : Below W.heap.size W W') : s.post enc P f o1 o2 o3 o4 W args (.bool true) W' := by
  have hin : ∀ p, p ∈ pl → p.block < W.heap.size := fun p hp => hW.lt p hp
  have hr : ∀ (b : Nat) (sp : Nat → Bool) (h : Bool), DataW.TrodAll enc P W' b sp h f.resultTypes.toList ((Value.bool true).resultList f.resultTypes.size) (s.fn H (ds ++ [])).results [] := fun b sp h => by
    rw [hT, hs]
    exact trodAll_cons_mk (shut_bool hB _) trodAll_mk0
  have ha' : ∀ sp : Nat → Bool, (∀ p ∈ pl, sp p.block = true) → DataW.TrodAll enc P W' 0 sp true f.params.toList args.toList (s.fn H (ds ++ [])).args pl := by
    rw [hs]
    exact ha
  have hvs : ∀ sp : Nat → Bool, DataW.TrodVars enc P W' sp s.vars (s.fn H (ds ++ [])).vars [] := fun sp => by
    rw [hs, hv]
    exact rfl
  refine ⟨ds, [], pl, [], pl, [], hW, hr _ _ _, ha' _ (fun p hp => decide_eq_true (hin p hp)), hvs _, World.keptBut_mono (fun p hp => ⟨hp, .inr (.inl hp)⟩) (hb.frame _), fun _ => ⟨?_, ?_⟩⟩
  · exact ok_one hT rfl (okWide_bool_mk hB _)
  · have hall := trodAll_append (ha' (fun _ => true) (fun _ _ => rfl)) (hr 0 (fun _ => true) true)
    obtain ⟨_, _, _, _, _, hz, hn⟩ := hW
    refine ⟨_, _, [] ++ pl ++ [], ⟨[] ++ pl, [], hall, hvs _, rfl, fun b off hp => ?_, fun e => ?_⟩, fun p hp _ => ?_⟩
    · have hp' : MemPlace.cell b off ∈ pl := by simpa using hp
      rw [hb.frozen (p := ⟨b, off, none⟩) (hin _ hp')]
      exact hz b off hp'
    · have := hn e
      simpa using this
    · simpa using hp
end Go.Proofs.YtmmedmjjbdopjaaGreatDoor
end

section
/- What the listed variables give: the table of powers of ten. -/
namespace Go.Proofs.YtmmedmjjbdopjaaGreatDoor
open Go.AM Go.RowKit
set_option maxRecDepth 1000000
def pow10Z : List Int := [1, 10, 100, 1000, 10000, 100000, 1000000, 10000000, 100000000, 1000000000, 10000000000, 100000000000, 1000000000000, 10000000000000, 100000000000000, 1000000000000000, 10000000000000000, 100000000000000000, 1000000000000000000, 10000000000000000000]
theorem gok_of {W : World} {n1 n2 n3 : String} {d1 d2 : DataW Unit} (h3 : Tryz.prog.globalNamed n3 = some 1) (h : laidMet Tryz.prog [(n1, d1), (n2, d2), (n3, Rows.laid_internal_strconv_uint64pow10)] W) : GOk gN gRows W := by
  have h' : laidMet Tryz.prog ((n3, Lib.tabData .u64 pow10Z) :: []) W := h.tail.tail
  have hT := Lib.tabIs_of_head h3 (show (Tryz.prog.globals[1]?).map (·.type) = some 241 by kernel_rfl) Tryz.underlying241 Tryz.underlying90 (by kernel_rfl) (by kernel_rfl) h'
  have hc := fun i hi => hT.cell h3 i hi
  have h0 := hc 0 (by decide)
  have hlt : 1 < W.heap.size := by
    unfold World.cell? at h0
    split at h0
    · rename_i hh
      exact (Array.getElem?_eq_some_iff.1 hh).1
    · cases h0
  refine ⟨hlt, fun r hr => ?_⟩
  obtain rfl := List.mem_singleton.1 hr
  refine ⟨Nat.lt_succ_self _, gRows_flat _ (List.mem_singleton.2 rfl), fun k v hk => ?_⟩
  have hk' : k < pow10Z.length := (List.getElem?_eq_some_iff.1 hk).1
  have := hc k hk'
  rw [this]
  have e : (pow10L)[k]? = some (.int .u64 (pow10Z.getD k 0)) := by
    have : pow10L = pow10Z.map fun n => Value.int .u64 n := rfl
    rw [this, List.getElem?_map, List.getElem?_eq_getElem hk']
    simp [List.getD, List.getElem?_eq_getElem hk']
  exact (e.symm.trans hk).symm ▸ rfl
end Go.Proofs.YtmmedmjjbdopjaaGreatDoor
end
