import Derived.Test.YtfdhppdkgfioaaaGreatDoorProg
import Derived.Shelf.Strings.Builder1
import Derived.WalkKit
import Derived.Test.YtfdhppdkgfioaaaGreatDoorAmF
import Derived.Test.YtfdhppdkgfioaaaGreatDoorWaxBase
import Derived.Test.YtfdhppdkgfioaaaGreatDoorLay2
import Derived.Test.YtfdhppdkgfioaaaGreatDoorAmF
section
/- strings.Builder's copyCheck and String, with the very worlds behind them. -/
namespace Go.Proofs
open Go.RowKit
set_option maxRecDepth 1000000
set_option maxHeartbeats 4000000
theorem bld_size : (Tryz.prog.info? 213).map (·.size) = some 2 := by kernel_rfl
theorem bld_lies : liesAt Tryz.prog Tryz.prog.depth 213 (2 / Tryz.prog.cellsOf 213) 0 213 1 = true := by kernel_rfl
theorem byte_cells : Tryz.prog.cellsOf 5 = 1 := by kernel_rfl
theorem copy_used (b : Nat) (w : World) (h0 : w.cell? ⟨b, 0, none⟩ = some (.pointer (some ⟨b, 0, none⟩))) :
    Calls Tryz.prog 178 #[.pointer (some ⟨b, 0, none⟩)] w fun e w' => e = .returned (.tuple #[]) ∧ w' = w := by
  obtain ⟨j, hj, _⟩ := Option.map_eq_some_iff.1 bld_size
  go_enter Tryz.func178, Tryz.ntmps178
  go_wp2
  rw [Lib.run_neq_ptr_same w _ Tryz.underlying210 hj]
  go_wp2
  go_end0
  exact ⟨rfl, rfl⟩
theorem copy_fresh (b : Nat) (w : World) (h0 : w.cell? ⟨b, 0, none⟩ = some (.pointer none)) (hsh : w.shape? b = some (213, 2)) (hfz : w.frozen? ⟨b, 0, none⟩ = false) :
    Calls Tryz.prog 178 #[.pointer (some ⟨b, 0, none⟩)] w fun e w' => e = .returned (.tuple #[]) ∧ w' = w.setCell ⟨b, 0, none⟩ (.pointer (some ⟨b, 0, none⟩)) := by
  obtain ⟨j, hj, hjs⟩ := Option.map_eq_some_iff.1 bld_size
  go_enter Tryz.func178, Tryz.ntmps178
  go_wp2
  rw [Lib.run_to_unsafe w ⟨b, 0, none⟩ Tryz.underlying210 Tryz.underlying253 hj (by rw [hjs]; decide) hsh (Nat.zero_lt_succ 1)]
  simp only [Result.andThen]
  rw [Oper.upon_value]
  go_wp2
  rw [run_callFunc_extern Tryz.func203 (by kernel_rfl) (by kernel_rfl) (by kernel_rfl) (e := Extern.AbiNoEscape.same) (by kernel_rfl)]
  rw [Lib.run_noEscape]
  simp only [Result.andThen]
  rw [Oper.upon_value]
  go_wp2
  rw [Lib.run_from_unsafe w ⟨b, 0, none⟩ Tryz.underlying253 Tryz.underlying210 hj hsh bld_lies]
  simp only [Result.andThen]
  rw [Oper.upon_value]
  go_wp2
  go_end0
  exact ⟨rfl, rfl⟩
theorem bld_string (b g cap cells : Nat) (l : List UInt8) (w : World) (h1 : w.cell? ⟨b, 1, none⟩ = some (.slice (some ⟨g, 0, none⟩) l.length cap)) (hsh : w.shape? g = some (5, cells)) (h0 : l ≠ []) (hn : l.length ≤ cells) (h63 : l.length ≤ 9223372036854775807) (hc : cap ≠ 0)
    (hcell : ∀ (j : Nat) (x : UInt8), l[j]? = some x → w.cell? ⟨g, j, none⟩ = some (.int .u8 x.toNat)) :
    Calls Tryz.prog 163 #[.pointer (some ⟨b, 0, none⟩)] w fun e w' => e = .returned (.string ⟨l.toArray⟩) ∧ w' = w.drew.freeze ⟨g, 0, none⟩ l.length := by
  have c1 : w.drew.cell? ⟨b, 1, none⟩ = some (.slice (some ⟨g, 0, none⟩) l.length cap) := h1
  have hSD : (Builtin.unsafeSliceData_ #[211] 235 #[.slice (some ⟨g, 0, none⟩) l.length cap]).run Tryz.prog w.drew = .ok (.pointer (some ⟨g, 0, none⟩)) w.drew :=
    Lib.run_unsafeSliceData_row _ _ _ _ _ _ hc
  have hUS : (Builtin.unsafeString_ #[235, 3] 9 #[.pointer (some ⟨g, 0, none⟩), .int .i64 l.length]).run Tryz.prog w.drew = .ok (.string ⟨l.toArray⟩) (w.drew.freeze ⟨g, 0, none⟩ l.length) := by
    refine Lib.run_unsafeString_row w.drew 235 3 9 5 Tryz.underlying235 byte_cells g cells hsh l h0 hn h63 ?_
    intro j x hx
    have := hcell j x hx
    show w.cell? ((⟨g, 0, none⟩ : Addr).add j) = _
    rw [AM.add_off, Nat.zero_add]
    exact this
  have mixed : Tryz.prog.follows .mixedOrders = true := by kernel_rfl
  clear hsh h1 hcell h0 hc
  go_enter Tryz.func163, Tryz.ntmps163
  go_wp2
  go_region_o
  all_goals (go_wp2; go_ret; exact ⟨rfl, rfl⟩)
end Go.Proofs
end

section
/- The abstract machine's summaries of what texts are made by: IndexByte, and strings.Builder's copyCheck and String. -/
namespace Go.Proofs
open Go.AM Go.RowKit
set_option maxRecDepth 1000000
set_option maxHeartbeats 4000000
/-- IndexByte of texts. -/
noncomputable def sumIdx (F : FuncId) (S : Sum) : Sum := fun f args h => bif Nat.beq f F then (match args with
  | [.string s, .int .u8 c] => some (.int .i64 (Lib.indexByte s.data.toList c.toNat.toUInt8), h)
  | _ => none) else S f args h
theorem sumIdx_ok {S : Sum} (hS : SumOk Tryz.prog S) : SumOk Tryz.prog (sumIdx 207 S) := by
  intro f args h v h' e
  unfold sumIdx at e
  cases hf : Nat.beq f 207 with
  | false => rw [hf] at e; exact hS _ _ _ _ _ e
  | true =>
    obtain rfl := Nat.eq_of_beq_eq_true hf
    rw [hf] at e
    simp only [cond_true] at e
    split at e
    · rename_i s c
      simp only [Option.some.injEq, Prod.mk.injEq] at e
      obtain ⟨rfl, rfl⟩ := e
      refine ⟨⟨_, _, Tryz.func207, rfl⟩, fun θ w args' k r ha => ?_⟩
      obtain ⟨x', y', rfl, hx, hy⟩ := l2_inv ha
      obtain rfl : x' = .string s := scalar_eq rfl hx
      obtain rfl : y' = .int .u8 c := scalar_eq rfl hy
      refine (callsIn_wide (n := k)).2 ((Any.stringslite_IndexByte Tryz.lays217 s c w).mono ?_)
      rintro e w' ⟨rfl, rfl⟩
      exact ⟨_, θ, rfl, .int _ _, r, .refl _ _ _⟩
    · cases e

/-- A builder's block. -/
noncomputable def bldOf (T : TypeId) (h : AHeap) (b : Nat) : Option ACells :=
  match h.get b with
  | some (.cells c) => bif Nat.beq c.n 2 && !c.opn && !c.ro && Nat.beq c.elem T then some c else none
  | _ => none
theorem bldOf_spec {P : Program} {T : TypeId} {h : AHeap} {b : Nat} {c : ACells} (e : bldOf T h b = some c) {θ : Env} {w : World} (r : Rep P θ h w) :
    h.get b = some (.cells c) ∧ c.ro = false ∧ c.n = 2 ∧ CRel P θ (θ.f b) c w ∧ (θ.f b).sh = 0 ∧ ∃ arr, w.heap[(θ.f b).blk]? = some (.cells arr T (0, 0)) ∧ arr.size = 2 := by
  unfold bldOf at e
  split at e
  · rename_i c' hg
    cases hc : (Nat.beq c'.n 2 && !c'.opn && !c'.ro && Nat.beq c'.elem T) with
    | false => rw [hc] at e; cases e
    | true =>
      rw [hc] at e
      obtain rfl : c' = c := by simpa using e
      simp only [Bool.and_eq_true, Bool.not_eq_true'] at hc
      have hn := Nat.eq_of_beq_eq_true hc.1.1.1
      have hT := Nat.eq_of_beq_eq_true hc.2
      have hC : CRel P θ (θ.f b) c' w := (r.obj b _ hg).2.2
      obtain ⟨arr, ha, _⟩ := hC.wr hc.1.2
      obtain ⟨h0, hs⟩ := hC.shut hc.1.2 hc.1.1.2
      exact ⟨hg, hc.1.2, hn, hC, h0, arr, hT ▸ ha, (hs _ _ _ ha).trans hn⟩
  · cases e
noncomputable def sumCopy (F : FuncId) (T : TypeId) (S : Sum) : Sum := fun f args h => bif Nat.beq f F then (match args with
  | [.pointer (some ⟨b, 0, none⟩)] => match bldOf T h b with
    | some c => match c.at 0 with
      | some (.pointer none) => (c.put 0 [.pointer (some ⟨b, 0, none⟩)]).map fun c' => (.tuple #[], h.set b (.cells c'))
      | some (.pointer (some ⟨b', 0, none⟩)) => bif Nat.beq b' b then some (.tuple #[], h) else none
      | _ => none
    | none => none
  | _ => none) else S f args h
theorem sumCopy_ok {S : Sum} (hS : SumOk Tryz.prog S) : SumOk Tryz.prog (sumCopy 178 213 S) := by
  intro f args h v h' e
  unfold sumCopy at e
  cases hf : Nat.beq f 178 with
  | false => rw [hf] at e; exact hS _ _ _ _ _ e
  | true =>
    obtain rfl := Nat.eq_of_beq_eq_true hf
    rw [hf] at e
    simp only [cond_true] at e
    split at e
    · rename_i b
      split at e
      · rename_i c hb
        refine ⟨⟨_, _, Tryz.func178, rfl⟩, fun θ w args' k r ha => ?_⟩
        obtain ⟨hg, hro, hn, hC, hsh, arr, harr, hsz⟩ := bldOf_spec hb r
        obtain ⟨x', rfl, hx⟩ := l1_inv ha
        obtain ⟨rfl, hbn⟩ := ptr_inv hx
        rw [hsh]
        have hcell : ∀ k v, c.at k = some v → ∃ v', w.cell? ⟨(θ.f b).blk, k, none⟩ = some v' ∧ VRel θ v v' := fun k v hk => by
          have := hC.at_ k v hk
          rwa [hsh] at this
        split at e
        · rename_i h0
          obtain ⟨c', hp, he⟩ := Option.map_eq_some_iff.1 e
          simp only [Prod.mk.injEq] at he
          obtain ⟨rfl, rfl⟩ := he
          obtain ⟨v', hv', hrel⟩ := hcell 0 _ h0
          obtain rfl : v' = .pointer none := flat_eq rfl hrel
          have hfz : w.frozen? ⟨(θ.f b).blk, 0, none⟩ = false := by simp [World.frozen?, harr]
          have hshape : w.shape? (θ.f b).blk = some (213, 2) := by simp [World.shape?, harr, hsz]
          have hP : VRel θ (.pointer (some ⟨b, 0, none⟩)) (.pointer (some ⟨(θ.f b).blk, 0, none⟩)) := by
            have := VRel.ptr (θ := θ) (b := b) (o := 0) hbn
            rwa [hsh] at this
          obtain ⟨w2, hrun, r2, g2⟩ := put_ok r hg hp (.cons hP .nil)
          refine (callsIn_wide (n := k)).2 ((copy_fresh (θ.f b).blk w hv' hshape hfz).mono ?_)
          rintro e w' ⟨rfl, rfl⟩
          have hw2 : w2 = w.setCell ⟨(θ.f b).blk, 0, none⟩ (.pointer (some ⟨(θ.f b).blk, 0, none⟩)) := by
            rw [hsh] at hrun
            have h3 : Runs Tryz.prog (storeCells ⟨(θ.f b).blk, 0 + 0, none⟩ [.pointer (some ⟨(θ.f b).blk, 0, none⟩)]) w () (w.setCell ⟨(θ.f b).blk, 0, none⟩ (.pointer (some ⟨(θ.f b).blk, 0, none⟩))) :=
              Runs.bind (Go.AM.run_store (P := Tryz.prog) harr (by omega) rfl) (.pure _ _)
            have h4 := (show _ = _ from hrun).symm.trans (show _ = _ from h3)
            injection h4
          subst hw2
          exact ⟨_, θ, rfl, flat_rel rfl, r2, g2⟩
        · rename_i b' h0
          cases hbb : Nat.beq b' b with
          | false => rw [hbb] at e; cases e
          | true =>
            obtain rfl := Nat.eq_of_beq_eq_true hbb
            rw [hbb] at e
            simp only [cond_true, Option.some.injEq, Prod.mk.injEq] at e
            obtain ⟨rfl, rfl⟩ := e
            obtain ⟨v', hv', hrel⟩ := hcell 0 _ h0
            obtain ⟨rfl, _⟩ := ptr_inv hrel
            rw [hsh] at hv'
            refine (callsIn_wide (n := k)).2 ((copy_used (θ.f b').blk w hv').mono ?_)
            rintro e w' ⟨rfl, rfl⟩
            exact ⟨_, θ, rfl, flat_rel rfl, r, .refl _ _ _⟩
        · cases e
      · cases e
    · cases e

noncomputable def bytesGo : List Value → Option (List UInt8)
  | [] => some []
  | .int .u8 (.ofNat m) :: l => bif Nat.blt m 256 then (match bytesGo l with | some r => some (UInt8.ofNat m :: r) | none => none) else none
  | _ :: _ => none
theorem bytesGo_spec : ∀ {l : List Value} {r : List UInt8}, bytesGo l = some r → r.length = l.length ∧ ∀ (j : Nat) (x : UInt8), r[j]? = some x → l[j]? = some (.int .u8 x.toNat)
  | [], r, e => by
    obtain rfl : [] = r := by simpa [bytesGo] using e
    exact ⟨rfl, fun j x h => by simp at h⟩
  | v :: l, r, e => by
    match v, e with
    | .int .u8 (.ofNat m), e =>
      simp only [bytesGo] at e
      cases hm : Nat.blt m 256 with
      | false => rw [hm] at e; cases e
      | true =>
        rw [hm] at e
        simp only [cond_true] at e
        cases hr : bytesGo l with
        | none => rw [hr] at e; cases e
        | some r' =>
          rw [hr] at e
          obtain rfl : UInt8.ofNat m :: r' = r := by simpa using e
          obtain ⟨h1, h2⟩ := bytesGo_spec hr
          refine ⟨by simp [h1], fun j x hx => ?_⟩
          cases j with
          | zero =>
            obtain rfl : UInt8.ofNat m = x := by simpa using hx
            have hlt := blt_true hm
            have : (UInt8.ofNat m).toNat = m := by simp [UInt8.toNat_ofNat']; omega
            simp [this]
          | succ j => simpa using h2 j x (by simpa using hx)
noncomputable def strAt (TB : TypeId) (h : AHeap) (g n cap : Nat) : AVH :=
  match h.get g with
  | some (.cells cg) => bif Nat.blt 0 n && Nat.blt 0 cap && !cg.ro && cg.base && Nat.beq cg.elem TB && Nat.ble n 4294967296 then
      (match cg.row 0 n with
      | some l => match bytesGo l with
        | some bs => some (.string ⟨bs.toArray⟩, h.del g)
        | none => none
      | none => none) else none
  | _ => none
noncomputable def sumStr (F : FuncId) (T TB : TypeId) (S : Sum) : Sum := fun f args h => bif Nat.beq f F then (match args with
  | [.pointer (some ⟨b, 0, none⟩)] => match bldOf T h b with
    | some c => match c.at 1 with
      | some (.slice (some ⟨g, 0, none⟩) n cap) => strAt TB h g n cap
      | _ => none
    | none => none
  | _ => none) else S f args h
theorem freeze_size (w : World) (g n : Nat) : (w.drew.freeze ⟨g, 0, none⟩ n).heap.size = w.heap.size := by
  unfold World.freeze
  split
  · rfl
  · exact Array.size_modify ..
theorem freeze_other (w : World) (g n c : Nat) (h : c ≠ g) : (w.drew.freeze ⟨g, 0, none⟩ n).heap[c]? = w.heap[c]? := by
  unfold World.freeze
  split
  · rfl
  · simp only [World.drew]
    rw [Array.getElem?_modify, if_neg (fun e => h e.symm)]
theorem sumStr_ok {S : Sum} (hS : SumOk Tryz.prog S) : SumOk Tryz.prog (sumStr 163 213 5 S) := by
  intro f args h v h' e
  unfold sumStr at e
  cases hf : Nat.beq f 163 with
  | false => rw [hf] at e; exact hS _ _ _ _ _ e
  | true =>
    obtain rfl := Nat.eq_of_beq_eq_true hf
    rw [hf] at e
    simp only [cond_true] at e
    split at e
    · rename_i b
      split at e
      · rename_i c hb
        split at e
        · rename_i g n cap h1
          unfold strAt at e
          split at e
          · rename_i cg hgg
            cases hc : (Nat.blt 0 n && Nat.blt 0 cap && !cg.ro && cg.base && Nat.beq cg.elem 5 && Nat.ble n 4294967296) with
            | false => rw [hc] at e; cases e
            | true =>
              rw [hc] at e
              simp only [Bool.and_eq_true, Bool.not_eq_true'] at hc
              simp only [cond_true] at e
              obtain ⟨⟨⟨⟨⟨c1, c2⟩, c3⟩, c4⟩, c5⟩, c6⟩ := hc
              have c1 := blt_true c1
              have c2 := blt_true c2
              have c5 := Nat.eq_of_beq_eq_true c5
              have c6 := Nat.le_of_ble_eq_true c6
              split at e
              · rename_i l hrow
                split at e
                · rename_i bs hbs
                  simp only [Option.some.injEq, Prod.mk.injEq] at e
                  obtain ⟨rfl, rfl⟩ := e
                  refine ⟨⟨_, _, Tryz.func163, rfl⟩, fun θ w args' k r ha => ?_⟩
                  obtain ⟨hg, hro, hn, hC, hsh, arr, harr, hsz⟩ := bldOf_spec hb r
                  obtain ⟨x', rfl, hx⟩ := l1_inv ha
                  obtain ⟨rfl, hbn⟩ := ptr_inv hx
                  rw [hsh]
                  obtain ⟨v', hv', hrel⟩ := hC.at_ 1 _ h1
                  rw [hsh] at hv'
                  have hCg : CRel Tryz.prog θ (θ.f g) cg w := (r.obj g _ hgg).2.2
                  have hg0 := hCg.zero c4
                  obtain ⟨arrg, harrg, hleg, _⟩ := hCg.wr c3
                  obtain ⟨hbl, hbc⟩ := bytesGo_spec hbs
                  obtain ⟨hll, hlc⟩ := row_spec hrow
                  have hnl : bs.length = n := by omega
                  have hcells : ∀ (j : Nat) (x : UInt8), bs[j]? = some x → w.cell? ⟨(θ.f g).blk, j, none⟩ = some (.int .u8 x.toNat) := fun j x hj => by
                    have hjn : j < n := by rw [← hnl]; exact (List.getElem?_eq_some_iff.1 hj).1
                    have h2 := hlc j hjn
                    rw [hbc j x hj, Nat.zero_add] at h2
                    obtain ⟨u, hu, hur⟩ := hCg.at_ j _ h2
                    rw [scalar_eq rfl hur, hg0] at hu
                    exact hu
                  have hnn : n ≤ cg.n := by
                    have h2 : n - 1 < n := by omega
                    have h3 := hlc (n - 1) h2
                    rw [List.getElem?_eq_getElem (by omega), Nat.zero_add] at h3
                    have := at_lt h3
                    omega
                  have hshape : w.shape? (θ.f g).blk = some (5, arrg.size) := by simp [World.shape?, harrg, c5]
                  obtain ⟨cap', rfl, hcap⟩ : ∃ cap', v' = .slice (some ⟨(θ.f g).blk, 0, none⟩) bs.length cap' ∧ cap' ≠ 0 := by
                    rw [hnl]
                    cases hrel with
                    | slice hb2 hc2 => exact ⟨_, by rw [hg0], by omega⟩
                    | sliceO hb2 hn2 hr2 => exact ⟨_, by rw [hg0], by omega⟩
                    | sliceE hb2 hr2 => omega
                    | sliceZ hb2 => omega
                  have hne : bs ≠ [] := fun e0 => by subst e0; simp at hnl; omega
                  refine (callsIn_wide (n := k)).2 ((bld_string (θ.f b).blk (θ.f g).blk cap' arrg.size bs w hv' hshape hne (by omega) (by omega) hcap hcells).mono ?_)
                  rintro e w' ⟨rfl, rfl⟩
                  obtain ⟨p, q⟩ := r.kill (w' := w.drew.freeze ⟨(θ.f g).blk, 0, none⟩ bs.length) hgg (by simp [AObj.wr, c3]) (by unfold World.freeze; split <;> rfl) (by unfold World.freeze; split <;> rfl) (by unfold World.freeze; split <;> rfl) (freeze_size _ _ _) (fun c hc => freeze_other _ _ _ _ hc)
                  exact ⟨_, θ, rfl, .string _, p, q⟩
                · cases e
              · cases e
          · cases e
        · cases e
      · cases e
    · cases e
end Go.Proofs
end

section
/- The fixed examples of chapter 1: what is known at the start. -/
namespace Go.Proofs
open Go.AM Go.RowKit
set_option maxRecDepth 1000000
noncomputable def pow10L : List Value := [1, 10, 100, 1000, 10000, 100000, 1000000, 10000000, 100000000, 1000000000, 10000000000, 100000000000, 1000000000000, 10000000000000, 100000000000000, 1000000000000000, 10000000000000000, 100000000000000000, 1000000000000000000, 10000000000000000000].map fun n => .int .u64 n
noncomputable def gN : Nat := 1 + 1
noncomputable def gRows : List GRow := [(1, pow10L, 267)]
theorem gRows_flat : ∀ r ∈ gRows, r.2.1.all flat = true := fun r hr => by
  obtain rfl := List.mem_singleton.1 hr
  rfl
noncomputable def sumT : Sum := sumIdx 207 (sumCopy 178 213 (sumStr 163 213 5 sum0))
theorem sumT_ok : SumOk Tryz.prog sumT := sumIdx_ok (sumCopy_ok (sumStr_ok sum0_ok))
end Go.Proofs
end

section
namespace Go.Proofs
open Go.AM Go.RowKit
set_option maxRecDepth 1000000
noncomputable def rootA : List Value := [.string ⟨#[50]⟩]
noncomputable def rootR : Value := .tuple #[.agg #[.string ⟨#[55, 48, 55, 47, 53, 48, 48]⟩, .string ⟨#[50, 56, 51, 47, 50, 48, 48]⟩], .int .i64 0]
theorem root_runs : (callF Tryz.prog sumT 100000 30 rootA (hG gN gRows)).map (·.1) = some rootR := by kernel_rfl
end Go.Proofs
end

section
namespace Go.Proofs
open Go.AM Go.RowKit
set_option maxRecDepth 1000000
noncomputable def timesA : List Value := [.agg #[.string ⟨#[45, 49]⟩, .string ⟨#[50]⟩], .agg #[.string ⟨#[45, 51]⟩, .string ⟨#[52]⟩]]
noncomputable def timesR : Value := .tuple #[.agg #[.string ⟨#[45, 54]⟩, .string ⟨#[56]⟩], .int .i64 0]
theorem times_runs : (callF Tryz.prog sumT 100000 28 timesA (hG gN gRows)).map (·.1) = some timesR := by kernel_rfl
end Go.Proofs
end

section
namespace Go.Proofs
open Go.AM Go.RowKit
set_option maxRecDepth 1000000
noncomputable def turnsR : Value := .agg (#[0, 2, 4, 0, 3, 5, 0, 4, 3, 0, 5, 2, 1, 2, 5, 1, 3, 4, 1, 4, 2, 1, 5, 3, 2, 0, 5, 2, 1, 4, 2, 4, 0, 2, 5, 1, 3, 0, 4, 3, 1, 5, 3, 4, 1, 3, 5, 0, 4, 0, 2, 4, 1, 3, 4, 2, 1, 4, 3, 0, 5, 0, 3, 5, 1, 2, 5, 2, 0, 5, 3, 1].map fun n => .int .i64 n)
theorem awk_turns_runs : (callF Tryz.prog sumT 100000 95 [] (hG gN gRows)).map (·.1) = some turnsR := by kernel_rfl
noncomputable def sumTu : Sum := memoG 95 [] turnsR gN gRows sumT
theorem sumTu_ok : SumOk Tryz.prog sumTu := memoG_of wax_names wax_mixed sumT_ok sumT_ok rfl (by kernel_rfl) gRows_flat awk_turns_runs
end Go.Proofs
end

section
namespace Go.Proofs
open Go.AM Go.RowKit
set_option maxRecDepth 1000000
theorem twice_runs : (callF Tryz.prog sumTu 100000 38 [.int .i64 10, .int .i64 10] (hG gN gRows)).map (·.1) = some (.tuple #[.int .i64 16, .int .i64 0]) := by kernel_rfl
end Go.Proofs
end

section
namespace Go.Proofs
open Go.AM Go.RowKit
set_option maxRecDepth 1000000
noncomputable def cornerL : List Value := [0, 0, 0, 1, 0, 0, 1, 1, 0].map waxI
noncomputable def cornerR : Value := .agg #[waxI 3, waxI 16, waxI 28, waxI 16, waxI 14, waxI 1]
theorem corner_counts : (callF Tryz.prog sum0 100000 92 [sRow 3] (hRow cornerL 24)).map (·.1) = some cornerR := by kernel_rfl
end Go.Proofs
end

section
namespace Go.Proofs
open Go.AM Go.RowKit
set_option maxRecDepth 1000000
theorem ring_counts : (callF Tryz.prog sum0 100000 92 [sRow 8] (hRow ringL 24)).map (·.1) = some (.agg #[waxI 8, waxI 40, waxI 64, waxI 32, waxI 32, waxI 0]) := by kernel_rfl
end Go.Proofs
end

section
namespace Go.Proofs
open Go.AM Go.RowKit
set_option maxRecDepth 1000000
noncomputable def ringC : Value := .agg #[waxI 8, waxI 40, waxI 64, waxI 32, waxI 32, waxI 0]
noncomputable def sum1 : Sum := memo 92 ringL 8 ringC sum0
theorem sum1_ok : SumOk Tryz.prog sum1 := memo_of sum0_ok sum0_ok (by decide) rfl rfl ring_counts
theorem ring_tunnels : (callF Tryz.prog sum1 100000 39 [sRow 8] (hRow ringL 24)).map (·.1) = some (.tuple #[waxI 1, waxI 0]) := by kernel_rfl
end Go.Proofs
end
