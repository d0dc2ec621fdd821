import Derived.Below
import Derived.LoopNIn
import Derived.OrdersIn
import Derived.Test.YtfdhppdkgfioaaaGreatDoorAmA
section
namespace Go.AM
open Go
section
variable {P : Program} {θ : Env} {h h' : AHeap} {w : World} {v : Value}

theorem l1_inv {x : Value} {l : List Value} (r : LRel θ [x] l) : ∃ x', l = [x'] ∧ VRel θ x x' := by
  obtain ⟨x', m, rfl, hx, hm⟩ := r.cons_inv
  obtain rfl := hm.nil_inv
  exact ⟨x', rfl, hx⟩
theorem l2_inv {x y : Value} {l : List Value} (r : LRel θ [x, y] l) : ∃ x' y', l = [x', y'] ∧ VRel θ x x' ∧ VRel θ y y' := by
  obtain ⟨x', m, rfl, hx, hm⟩ := r.cons_inv
  obtain ⟨y', rfl, hy⟩ := l1_inv hm
  exact ⟨x', y', rfl, hx, hy⟩
theorem all_scalar_eq {l l' : List Value} (h : l.all scalar = true) (r : LRel θ l l') : l' = l := scalars_eq h r

/-- Cells are put into a block. -/
theorem put_ok (r : Rep P θ h w) {b k : Nat} {c c' : ACells} {vs vs' : List Value} (hg : h.get b = some (.cells c)) (hp : c.put k vs = some c') (hv : LRel θ vs vs') :
    ∃ w', Runs P (storeCells ⟨(θ.f b).blk, k + (θ.f b).sh, none⟩ vs') w () w' ∧ Rep P θ (h.set b (.cells c')) w' ∧ Goes θ h w θ (h.set b (.cells c')) w' := by
  have hc : CRel P θ (θ.f b) c w := (r.obj b _ hg).2.2
  obtain ⟨hro, hpl, hok, hc'⟩ := put_spec hp
  obtain ⟨arr, ha, hlen, _⟩ := hc.wr hro
  obtain ⟨w', arr', hrun, hst⟩ := run_storeCells (P := P) (b := (θ.f b).blk) (o := k + (θ.f b).sh) vs' 0 w arr ha (by have := hv.len; omega) (cellsOk_rel hv hok)
  rw [Nat.add_zero] at hst
  obtain ⟨p, q⟩ := r.turn (o' := .cells c') hg (by simp [AObj.wr, hro]) (by simp [AObj.wr, hc', hro]) hst.os hst.tape hst.output hst.size (fun k hk => hst.other k hk) (hc.stored hp hv ha hst)
  exact ⟨w', hrun, p, q⟩

theorem len_ok (r : Rep P θ h w) {t ty : TypeId} {x x' : Value} (hx : VRel θ x x') (e : abuiltin P h .len [t] [x] = some (v, h')) : Ok P θ h w (Builtin.len_ #[t] ty #[x']) v h' := by
  simp only [abuiltin] at e
  split at e
  · rename_i s hu
    simp only [Option.some.injEq, Prod.mk.injEq] at e
    obtain ⟨rfl, rfl⟩ := e
    rw [scalar_eq (v := .string s) rfl hx]
    exact .keep r ((run_under hu).bind (.pure _ _)) (.int _ _)
  · rename_i n elem hu
    simp only [Option.some.injEq, Prod.mk.injEq] at e
    obtain ⟨rfl, rfl⟩ := e
    refine .keep r ((run_under hu).bind ?_) (.int _ _)
    cases x' <;> exact .pure _ _
  · rename_i arr hu
    split at e
    · rename_i n elem ha
      simp only [Option.some.injEq, Prod.mk.injEq] at e
      obtain ⟨rfl, rfl⟩ := e
      refine .keep r (v' := goInt n) ((run_under hu).bind ?_) (.int _ _)
      cases x' <;> exact (run_under ha).bind (.pure _ _)
    · cases e
  · rename_i n c hu
    simp only [Option.some.injEq, Prod.mk.injEq] at e
    obtain ⟨rfl, rfl⟩ := e
    refine .keep r (v' := goInt n) ((run_under hu).bind ?_) (.int _ _)
    cases hx <;> exact .pure _ _
  · rename_i hu
    simp only [Option.some.injEq, Prod.mk.injEq] at e
    obtain ⟨rfl, rfl⟩ := e
    obtain rfl : x' = .map none := by cases hx; rfl
    exact .keep r (v' := goInt 0) ((run_under hu).bind (.pure _ _)) (.int _ _)
  · rename_i m hu
    split at e
    · rename_i es clock hg
      simp only [Option.some.injEq, Prod.mk.injEq] at e
      obtain ⟨rfl, rfl⟩ := e
      obtain ⟨es', ha, hr⟩ : ∃ es', w.heap[(θ.f m).blk]? = some (.map es' clock) ∧ MRel θ es es'.toList := (r.obj m _ hg).2.2
      obtain rfl : x' = .map (some (θ.f m).blk) := by cases hx; rfl
      have hsz : es'.size = es.length := by have := hr.len; simp at this; exact this.symm
      refine .keep r (v' := goInt es.length) ((run_under hu).bind ((Runs.getObj ha (fun _ _ _ => by simp)).bind ?_)) (.int _ _)
      rw [← hsz]; exact .pure _ _
    · cases e
  · cases e

theorem slice_inv {p : Option Addr} {n c : Nat} {y : Value} (r : VRel θ (.slice p n c) y) : ∃ p' c', y = .slice p' n c' ∧ (∀ b off, p = some ⟨b, off, none⟩ → n ≠ 0 → p' = some ⟨(θ.f b).blk, off + (θ.f b).sh, none⟩) := by
  cases r with
  | slice0 _ _ => exact ⟨_, _, rfl, fun b off e => by cases e⟩
  | slice _ _ => exact ⟨_, _, rfl, fun b off e _ => by cases e; rfl⟩
  | sliceO _ _ _ => exact ⟨_, _, rfl, fun b off e _ => by cases e; rfl⟩
  | sliceE _ _ => exact ⟨_, _, rfl, fun b off e h => absurd rfl h⟩
  | sliceZ _ => exact ⟨_, _, rfl, fun b off e h => absurd rfl h⟩
theorem copy_ok (r : Rep P θ h w) {td ts ty elem : TypeId} {size : Nat} {d d' x x' : Value} (hu : P.underlying td = some (.slice elem)) (hs : sizeOfT P elem = some size) (hd : VRel θ d d') (hx : VRel θ x x') (e : aCopy h size d x = some (v, h')) :
    Ok P θ h w (Builtin.copy_ #[td, ts] ty #[d', x']) v h' := by
  unfold aCopy at e
  split at e
  · rename_i p len cap n hl
    obtain ⟨p', cap', rfl, hp'⟩ := slice_inv hd
    have hk : (bif Nat.ble n len then n else len) = Nat.min n len := by
      cases hb : Nat.ble n len with
      | true => exact (Nat.min_eq_left (Nat.le_of_ble_eq_true hb)).symm
      | false =>
        have hnl : ¬ n ≤ len := fun hh => by rw [Nat.ble_eq_true_of_le hh] at hb; cases hb
        have hge : len ≤ n := by omega
        exact (Nat.min_eq_right hge).symm
    rw [hk] at e
    simp only at e
    cases hel : elemsOf h size (Nat.min n len) x with
    | none => rw [hel] at e; cases e
    | some cells =>
      rw [hel] at e
      simp only at e
      obtain ⟨cells', hcr, hrun⟩ := elems_rel r hx hel
      have pre : ∀ {w' : World} {v' : Value}, Runs P (do
          match p' with
          | some a => storeCells a cells'.toArray.toList
          | none => Pure.pure ()
          Pure.pure (goInt (Nat.min n len))) w v' w' → Runs P (Builtin.copy_ #[td, ts] ty #[.slice p' len cap', x']) w v' w' := by
        intro w' v' hh
        refine (run_under hu).bind ((lenV_run hx hl).bind ((run_sizeT hs).bind ((hrun w rfl).bind ?_)))
        cases p' with
        | none => exact hh
        | some a => exact hh
      cases h0 : Nat.beq (Nat.min n len) 0 with
      | true =>
        rw [h0] at e
        simp only [cond_true, Option.some.injEq, Prod.mk.injEq] at e
        obtain ⟨rfl, rfl⟩ := e
        have hz := Nat.eq_of_beq_eq_true h0
        have hnil : cells' = [] := by
          have hc0 : cells = [] := by
            rw [hz] at hel
            unfold elemsOf at hel
            split at hel
            · simpa using hel.symm
            · rename_i b off m cap
              rw [show Nat.ble 0 m = true from Nat.ble_eq_true_of_le (Nat.zero_le _)] at hel
              simpa using hel.symm
            · rename_i s
              cases hb : Nat.beq 0 s.size with
              | false => rw [hb] at hel; simp at hel
              | true =>
                rw [hb] at hel
                have := Nat.eq_of_beq_eq_true hb
                have hs0 : s.data.toList = [] := List.eq_nil_of_length_eq_zero (by simpa using this.symm)
                simpa [bytesOf, hs0] using hel.symm
            · cases hel
          subst hc0
          exact hcr.nil_inv
        subst hnil
        refine .keep r (v' := goInt 0) (pre ?_) (.int _ _)
        rw [hz]
        cases p' with
        | none => exact Runs.bind (.pure _ _) (.pure _ _)
        | some a => exact Runs.bind (.pure _ _) (.pure _ _)
      | false =>
        rw [h0] at e
        simp only [cond_false] at e
        have hn0 := beq_false h0
        split at e
        · rename_i b off
          have hlen : len ≠ 0 := fun e => hn0 (by rw [e]; exact Nat.min_zero n)
          obtain rfl := hp' b off rfl hlen
          split at e
          · rename_i c hg
            simp only [Option.map_eq_some_iff, Prod.mk.injEq] at e
            obtain ⟨c', hp, rfl, rfl⟩ := e
            obtain ⟨w', a1, a2, a3⟩ := put_ok r hg hp hcr
            exact ⟨goInt _, w', θ, pre (Runs.bind a1 (.pure _ _)), .int _ _, a2, a3⟩
          · cases e
        · cases e
  · cases e
theorem MRel.eraseIdx : ∀ {es es' : List MapEntry} (_ : MRel θ es es') (i : Nat), MRel θ (es.eraseIdx i) (es'.eraseIdx i)
  | [], es', r, i => by rw [r.nil_inv]; exact ⟨rfl, fun j e e' a => by simp at a⟩
  | e :: es, es', r, i => by
    obtain ⟨e', l', rfl, hk, hb, hv, hl⟩ := r.cons_inv
    cases i with
    | zero => exact hl
    | succ i =>
      have ih := hl.eraseIdx i
      refine ⟨by simp only [List.eraseIdx_cons_succ, List.length_cons]; rw [ih.len], fun j a b x y => ?_⟩
      simp only [List.eraseIdx_cons_succ] at x y
      cases j with
      | zero => simp at x y; subst x y; exact ⟨hk, hb, hv⟩
      | succ j => simp at x y; exact ih.at_ j a b x y
theorem delete_ok (r : Rep P θ h w) {t t2 ty : TypeId} {m m' k k' : Value} (hm : VRel θ m m') (hk : VRel θ k k') (e : aDelete P h t m k = some (v, h')) :
    Ok P θ h w (Builtin.delete_ #[t, t2] ty #[m', k']) v h' := by
  unfold aDelete at e
  split at e
  · rename_i key elem q hu
    split at e
    · rename_i es clock hg
      obtain ⟨es', ha, hr⟩ : ∃ es', w.heap[(θ.f q).blk]? = some (.map es' clock) ∧ MRel θ es es'.toList := (r.obj q _ hg).2.2
      have hbl := (r.obj q _ hg).2.1
      obtain rfl : m' = .map (some (θ.f q).blk) := by cases hm; rfl
      have hemp : es'.isEmpty = es.isEmpty := by
        have := hr.isEmpty
        simpa using this
      have hget : Runs P (getObj (θ.f q).blk) w (.map es' clock) w := .getObj ha (fun _ _ _ => by simp)
      split at e
      · rename_i i uo hf
        obtain ⟨rfl, hc, q', hq, hfr⟩ := find_rel hr hk hf
        simp only [Option.some.injEq, Prod.mk.injEq] at e
        obtain ⟨rfl, rfl⟩ := e
        cases q' with
        | none => exact hfr.elim
        | some q' =>
          obtain ⟨j, u2⟩ := q'
          obtain ⟨rfl, _⟩ := hfr
          let ob : Obj := .map (es'.eraseIdxIfInBounds i) clock
          obtain ⟨p, g⟩ := r.turn (w' := setB w (θ.f q).blk ob) (o' := .map (es.eraseIdx i) clock) hg rfl rfl rfl rfl rfl (setB_size _ _ _) (fun c hc => setB_other w ob hc)
            ⟨_, setB_get w _ ob hbl, by rw [Array.toList_eraseIdxIfInBounds]; exact hr.eraseIdx i⟩
          refine ⟨.tuple #[], _, θ, ?_, flat_rel rfl, p, g⟩
          rw [← hemp] at hc
          exact (run_under hu).bind (hget.bind ((hc w).bind ((hq w).bind (Runs.bind (.setObj ha (fun _ _ _ => by simp)) (.pure _ _)))))
      · rename_i hf
        obtain ⟨rfl, hc, q', hq, hfr⟩ := find_rel hr hk hf
        simp only [Option.some.injEq, Prod.mk.injEq] at e
        obtain ⟨rfl, rfl⟩ := e
        cases q' with
        | some q' => exact hfr.elim
        | none =>
          let ob : Obj := .map es' clock
          obtain ⟨p, g⟩ := r.turn (w' := setB w (θ.f q).blk ob) (o' := .map es clock) hg rfl rfl rfl rfl rfl (setB_size _ _ _) (fun c hc => setB_other w ob hc)
            ⟨_, setB_get w _ ob hbl, hr⟩
          refine ⟨.tuple #[], _, θ, ?_, flat_rel rfl, p, g⟩
          rw [← hemp] at hc
          exact (run_under hu).bind (hget.bind ((hc w).bind ((hq w).bind (Runs.bind (.setObj ha (fun _ _ _ => by simp)) (.pure _ _)))))
      · cases e
    · cases e
  · cases e
theorem clear_ok (r : Rep P θ h w) {t ty : TypeId} {x x' : Value} (hx : VRel θ x x') (e : aClear P h t x = some (v, h')) : Ok P θ h w (Builtin.clear_ #[t] ty #[x']) v h' := by
  unfold aClear at e
  split at e
  · rename_i elem p len cap hu
    obtain ⟨p', cap', rfl, hp'⟩ := slice_inv hx
    cases h0 : Nat.beq len 0 with
    | true =>
      rw [h0] at e
      simp only [cond_true, Option.some.injEq, Prod.mk.injEq] at e
      obtain ⟨rfl, rfl⟩ := e
      obtain rfl := Nat.eq_of_beq_eq_true h0
      refine .keep r (v' := .tuple #[]) ((run_under hu).bind ?_) (flat_rel rfl)
      cases p' <;> exact Runs.bind (.pure _ _) (.pure _ _)
    | false =>
      rw [h0] at e
      simp only [cond_false] at e
      have hn0 := beq_false h0
      split at e
      · rename_i b off
        obtain rfl := hp' b off rfl hn0
        split at e
        · rename_i z size bytes c hz hg
          simp only [Option.map_eq_some_iff, Prod.mk.injEq] at e
          obtain ⟨c', hp, rfl, rfl⟩ := e
          obtain ⟨i, zv, hi, hiz, rfl, hfl, hlen, hsz, hby⟩ := zeroOf_spec hz
          obtain ⟨w', a1, a2, a3⟩ := put_ok r hg hp (flats_rel (repeatL_all hfl len))
          refine ⟨.tuple #[], w', θ, (run_under hu).bind ?_, flat_rel rfl, a2, a3⟩
          obtain ⟨m, rfl⟩ : ∃ m, len = m + 1 := ⟨len - 1, by omega⟩
          refine (run_zero hi hiz).bind ?_
          rw [zeroCells_eq]
          exact Runs.bind a1 (.pure _ _)
        · cases e
      · cases e
  · cases e
theorem builtin_ok (r : Rep P θ h w) {b : Builtin} {ats : List TypeId} {ty : TypeId} {consts : Array Bool} {args args' : List Value} (ha : LRel θ args args') (e : abuiltin P h b ats args = some (v, h')) :
    NextOk P θ h w (builtin b ats.toArray ty consts args'.toArray) v h' := by
  have e0 := e
  unfold abuiltin at e
  split at e
  · -- len
    rename_i t x
    obtain ⟨x', rfl, hx⟩ := l1_inv ha
    exact (len_ok r hx e0).next
  · -- cap
    rename_i t x
    obtain ⟨x', rfl, hx⟩ := l1_inv ha
    refine Ok.next (s := Builtin.cap_ #[t] ty #[x']) ?_
    split at e
    · rename_i a n c hu
      cases hc : Nat.beq c OPEN with
      | true => rw [hc] at e; simp at e
      | false =>
        rw [hc] at e
        simp only [cond_false, Option.some.injEq, Prod.mk.injEq] at e
        obtain ⟨rfl, rfl⟩ := e
        have hno := beq_false hc
        have : ∃ a' m, x' = .slice a' m c := by
          cases hx with
          | slice0 _ _ => exact ⟨_, _, rfl⟩
          | slice _ _ => exact ⟨_, _, rfl⟩
          | sliceO _ _ _ => exact absurd rfl hno
          | sliceE _ _ => exact absurd rfl hno
          | sliceZ _ => exact ⟨_, _, rfl⟩
        obtain ⟨a', m, rfl⟩ := this
        exact .keep r (v' := goInt c) ((run_under hu).bind (.pure _ _)) (.int _ _)
    · cases e
  · -- append
    rename_i ts tx s x
    obtain ⟨s', x', rfl, hs, hx⟩ := l2_inv ha
    split at e
    · rename_i elem hu
      exact (append_ok r hu hs hx e).next
    · cases e
  · -- copy
    rename_i td ts d x
    obtain ⟨d', x', rfl, hd, hx⟩ := l2_inv ha
    refine Ok.next (s := Builtin.copy_ #[td, ts] ty #[d', x']) ?_
    split at e
    · rename_i elem hu
      cases hs : sizeOfT P elem with
      | none => rw [hs] at e; cases e
      | some size =>
        rw [hs] at e
        exact copy_ok r hu hs hd hx e
    · cases e
  · -- delete
    rename_i t t2 m k
    obtain ⟨m', k', rfl, hm, hk⟩ := l2_inv ha
    exact (delete_ok r hm hk e).next
  · -- min
    cases hs : args.all scalar with
    | false => rw [hs] at e; simp at e
    | true =>
      rw [hs] at e
      obtain rfl := all_scalar_eq hs ha
      obtain ⟨hq, rfl⟩ := keep_spec (by simpa using e)
      obtain ⟨hq, hv⟩ := onlyFlat_spec hq
      exact (Ok.keep r (quick_runs hq w) (flat_rel hv)).next
  · -- max
    cases hs : args.all scalar with
    | false => rw [hs] at e; simp at e
    | true =>
      rw [hs] at e
      obtain rfl := all_scalar_eq hs ha
      obtain ⟨hq, rfl⟩ := keep_spec (by simpa using e)
      obtain ⟨hq, hv⟩ := onlyFlat_spec hq
      exact (Ok.keep r (quick_runs hq w) (flat_rel hv)).next
  · -- clear
    rename_i t x
    obtain ⟨x', rfl, hx⟩ := l1_inv ha
    exact (clear_ok r hx e).next
  · cases e
end
end Go.AM
end

section
namespace Go.AM
open Go
section
variable {P : Program} {θ : Env} {h h' : AHeap} {w w' : World} {v : Value}

def ERel : AExit → Exit → Prop
  | .normal, .normal => True
  | .exit i, .exit j => i = j
  | .ret, .ret => True
  | _, _ => False
/-- The fence of a piece of code: wide, and in which round. -/
def FE (θ : Env) : Option Nat → Fence
  | none => Fence.wide
  | some l => Fence.wide.inRound (θ.f l).blk
def RndOk (θ : Env) (rnd : Option Nat) : Prop := ∀ l, rnd = some l → l < θ.nx
theorem FE_le {θ θ' : Env} (hl : θ.Le θ') {rnd : Option Nat} (hr : RndOk θ rnd) : FE θ' rnd = FE θ rnd := by
  cases rnd with
  | none => rfl
  | some l => simp only [FE, hl.f l (hr l rfl)]
theorem RndOk.mono {θ θ' : Env} (hl : θ.Le θ') {rnd : Option Nat} (hr : RndOk θ rnd) : RndOk θ' rnd := fun l e => Nat.lt_of_lt_of_le (hr l e) hl.nx
theorem FE_fn (θ : Env) (rnd : Option Nat) (f : FuncId) : (FE θ rnd).fn f := by cases rnd <;> trivial
theorem FE_depth (θ : Env) (rnd : Option Nat) (n : Nat) : (FE θ rnd).depth.isSome = true → 1 ≤ n := by cases rnd <;> (intro h; cases h)
theorem FE_calls {rnd : Option Nat} {n : Nat} {f : FuncId} {args : Array Value} {R : Ending → World → Prop} (hc : CallsIn Fence.wide n P f args w R) : CallsIn (FE θ rnd) n P f args w R := by
  cases rnd <;> exact hc

/-- What is said of a piece of code that the abstract machine has run. -/
def CodeOk (P : Program) (n : Nat) (rnd : Option Nat) (c : Code) (a : AAct) (h : AHeap) (x : AExit) (a' : AAct) (h' : AHeap) : Prop :=
  ∀ (θ : Env) (w : World) (act : Act) (m : Nat) (Q : Exit → Act → World → Prop), Rep P θ h w → ActRel θ a act → RndOk θ rnd →
    (∀ (θ' : Env) (w' : World) (act' : Act) (e : Exit), ERel x e → Rep P θ' h' w' → Goes θ h w θ' h' w' → ActRel θ' a' act' → Q e act' w') →
    c.wpIn (FE θ rnd) m P Q act w ∧ (∀ body, c = .loop body → Code.roundsIn (FE θ rnd) m P body Q n act w)
def CallOk (P : Program) (f : FuncId) (args : List Value) (h : AHeap) (v : Value) (h' : AHeap) : Prop :=
  (∃ fn c, P.funcs[f]? = some fn ∧ fn.body = some c) ∧
  ∀ (θ : Env) (w : World) (args' : List Value) (m : Nat), Rep P θ h w → LRel θ args args' →
    CallsIn Fence.wide m P f args'.toArray w fun e w' => ∃ v' θ', e = .returned v' ∧ VRel θ' v v' ∧ Rep P θ' h' w' ∧ Goes θ h w θ' h' w'
def TaskOk (P : Program) (n : Nat) (t : Task) (h : AHeap) (o : AOut) (h' : AHeap) : Prop :=
  match t, o with
  | .code rnd _ c a, .exit x a' => CodeOk P n rnd c a h x a' h'
  | .call f args, .ret v => CallOk P f args h v h'
  | _, _ => False
def RunOk (P : Program) (n : Nat) (ih : Run) : Prop := ∀ t h o h', ih t h = some (o, h') → TaskOk P n t h o h'
/-- No function is one of those that the model runs by themselves though they have a body. -/
def NamesOk (P : Program) : Prop := ∀ (f : FuncId) (fn : Func), P.funcs[f]? = some fn → (fn.name == "runtime.NumGoroutine") = false

theorem callFunc_run (hN : NamesOk P) {f : FuncId} {fn : Func} {c : Code} (hf : P.funcs[f]? = some fn) (hb : fn.body = some c) (args : Array Value) : Runs P (callFunc f args) w (.enter f args) w := by
  unfold callFunc
  refine Runs.bind (.program _) ?_
  simp only [hf, hN f fn hf, Bool.false_eq_true, if_false, hb, Option.isNone_some]
  exact .pure _ _

/-- An object is gone, and its block may turn. -/
theorem Rep.kill (r : Rep P θ h w) {i : Nat} {o : AObj} (e : h.get i = some o) (hw : o.wr = true)
    (os : w'.os = w.os) (tape : w'.tape = w.tape) (output : w'.output = w.output) (hs : w'.heap.size = w.heap.size)
    (hf : ∀ b, b ≠ (θ.f i).blk → w'.heap[b]? = w.heap[b]?) : Rep P θ (h.del i) w' ∧ Goes θ h w θ (h.del i) w' := by
  have key : ∀ j oj, (h.del i).get j = some oj → j ≠ i ∧ h.get j = some oj := fun j oj ej => by
    rw [AHeap.get_del] at ej
    by_cases hj : j = i
    · rw [if_pos hj] at ej; cases ej
    · rw [if_neg hj] at ej; exact ⟨hj, ej⟩
  refine ⟨⟨r.nx, fun j oj ej => ?_, fun j k oj ok ej ek => r.inj j k oj ok (key j oj ej).2 (key k ok ek).2, fun j hj => hs ▸ r.low j hj, r.glob⟩,
    ⟨.refl _, os, tape, output, by omega, fun b _ hn => hf b (fun eb => hn ⟨i, o, e, hw, eb.symm⟩), fun b _ ⟨j, oj, ej, hwj, eb⟩ => ⟨j, oj, (key j oj ej).2, hwj, eb⟩⟩⟩
  obtain ⟨hj, ej⟩ := key j oj ej
  obtain ⟨a, b, c⟩ := r.obj j oj ej
  exact ⟨a, by omega, c.congr (hf _ (fun eb => r.inj i j o oj e ej (Ne.symm hj) hw eb.symm))⟩

theorem putAll_rel {n : Nat} : ∀ {ps : List Tmp} {t : Tr Value} {tm : Array Value} {vs vs' : List Value}, TRel θ t n tm → LRel θ vs vs' → TRel θ (putAll t n ps vs) n ((ps.zip vs').foldl (fun tm (p, a) => tm.setIfInBounds p a) tm)
  | [], t, tm, vs, vs', r, s => by simpa [putAll] using r
  | p :: ps, t, tm, [], vs', r, s => by rw [s.nil_inv]; simpa [putAll] using r
  | p :: ps, t, tm, u :: vs, vs', r, s => by
    obtain ⟨u', m, rfl, hu, hm⟩ := s.cons_inv
    simp only [putAll, List.zip_cons_cons, List.foldl_cons]
    refine putAll_rel ?_ hm
    have := (ActRel.put (a := ⟨t, n, [], 0⟩) (act := ⟨tm, []⟩) ⟨r, rfl, (fun m h => by cases h), fun g hg => absurd hg (Nat.not_lt_zero g)⟩ (some p) hu).t
    rw [AAct.put_some] at this
    by_cases hp : p < n
    · rw [show Nat.blt p n = true from Nat.ble_eq_true_of_le hp]
      rw [if_pos hp] at this
      exact this
    · rw [show Nat.blt p n = false from by cases e : Nat.blt p n; rfl; exact absurd (blt_true e) hp]
      rw [if_neg hp] at this
      exact this

theorem loop_get (r : Rep P θ h w) {l : Nat} {q : ALoop} (hg : h.get l = some (.loop q)) : ∃ tm fn, Runs P (Instr.getLoop (θ.f l).blk) w { state := q.state, pending := q.pending, fn := fn, tmps := tm, params := q.params, assign := q.assign, body := q.body, defers := (θ.f q.defers).blk } w ∧
    w.heap[(θ.f l).blk]? = some (.loop { state := q.state, pending := q.pending, fn := fn, tmps := tm, params := q.params, assign := q.assign, body := q.body, defers := (θ.f q.defers).blk }) ∧ TRel θ q.t q.n tm ∧ q.defers < θ.nx ∧ (θ.f l).blk < w.heap.size := by
  obtain ⟨tm, fn, ha, ht, hd⟩ := (r.obj l _ hg).2.2
  exact ⟨tm, fn, (Runs.getObj ha (fun _ _ _ => by simp)).bind (.pure _ _), ha, ht, hd, (r.obj l _ hg).2.1⟩
end
end Go.AM
end

section
namespace Go.AM
open Go
section
variable {P : Program} {θ : Env} {h h' : AHeap} {w w' : World} {v : Value}

/-- A round of a loop over a function. -/
theorem round_ok {n : Nat} {ih : Run} (hih : RunOk P n ih) {l : Nat} {args args' : List Value} (r : Rep P θ h w) (ha : LRel θ args args') (e : round ih l args h = some (v, h')) (m : Nat) :
    ∃ f tmps assign body, Runs P (Instr.yield (θ.f l).blk args'.toArray) w (.round (θ.f l).blk f tmps assign body) w ∧
      RoundIn Fence.wide m P (θ.f l).blk f tmps assign body w fun e w' => ∃ v' θ', e = .returned v' ∧ VRel θ' v v' ∧ Rep P θ' h' w' ∧ Goes θ h w θ' h' w' := by
  unfold round at e
  cases hg : h.get l with
  | none => rw [hg] at e; cases e
  | some o =>
    rw [hg] at e
    cases o with
    | loop q =>
      simp only at e
      cases hb : (q.busy || q.done || !Nat.beq args.length q.params.size) with
      | true => rw [hb] at e; simp at e
      | false =>
        rw [hb] at e
        simp only [cond_false] at e
        simp only [Bool.or_eq_false_iff, Bool.not_eq_false'] at hb
        obtain ⟨⟨hbusy, hdone⟩, hlen⟩ := hb
        have hlen := Nat.eq_of_beq_eq_true hlen
        obtain ⟨tm, fn, hget, hheap, ht, hd, hbl⟩ := loop_get r hg
        have hlx : l < θ.nx := r.lt hg
        split at e
        · rename_i a₁ h₁ hr1
          have hc1 : CodeOk P n (some l) q.assign _ h .normal a₁ h₁ := hih _ _ _ _ hr1
          split at e
          · rename_i q₁ hg1
            cases hb1 : (q₁.busy || q₁.done) with
            | true => rw [hb1] at e; simp at e
            | false =>
              rw [hb1] at e
              simp only [cond_false] at e
              simp only [Bool.or_eq_false_iff] at hb1
              split at e
              · rename_i x a₂ h₂ hr2
                have hc2 : CodeOk P n (some l) q.body a₁ _ x a₂ h₂ := hih _ _ _ _ hr2
                split at e
                · rename_i q₂ hg2
                  refine ⟨fn, (q.params.zip args'.toArray).foldl (fun tm (p, a) => tm.setIfInBounds p a) tm, q.assign, q.body, ?_, ?_⟩
                  · unfold Instr.yield
                    refine hget.bind ?_
                    have hsz : ¬ args'.toArray.size ≠ q.params.size := by
                      have := ha.len
                      simp; omega
                    simp only [if_neg hsz]
                    exact .pure _ _
                  · refine roundIn_of_wpIn (F := Fence.wide) trivial ?_
                    have hrnd : RndOk θ (some l) := fun l' el => by cases el; exact hlx
                    have hact : ActRel θ { t := putAll q.t q.n q.params.toList args, n := q.n, marks := [], gl := h.gl } { tmps := (q.params.zip args'.toArray).foldl (fun tm (p, a) => tm.setIfInBounds p a) tm, defers := [] } := by
                      refine ⟨?_, rfl, (fun m hm => by cases hm), r.glob⟩
                      have := putAll_rel (n := q.n) (ps := q.params.toList) ht ha
                      rw [← Array.foldl_toList, Array.toList_zip]
                      exact this
                    refine (hc1 θ w _ m _ r hact hrnd ?_).1
                    intro θ₁ w₁ act₁ e₁ he₁ r₁ g₁ ha₁
                    cases e₁ <;> simp only [ERel] at he₁
                    obtain ⟨tm1, fn1, hget1, hheap1, ht1, hd1, hbl1⟩ := loop_get r₁ hg1
                    have hbl_eq : (θ₁.f l).blk = (θ.f l).blk := by rw [g₁.le.f l hlx]
                    -- the record turns busy
                    let ob1 : Obj := .loop { state := .busy, pending := q₁.pending, fn := fn1, tmps := tm1, params := q₁.params, assign := q₁.assign, body := q₁.body, defers := (θ₁.f q₁.defers).blk }
                    obtain ⟨r₂, g₂⟩ := r₁.turn (w' := setB w₁ (θ₁.f l).blk ob1) (o' := .loop { q₁ with busy := true }) hg1 rfl rfl rfl rfl rfl (setB_size _ _ _) (fun c hc => setB_other w₁ ob1 hc)
                      ⟨tm1, fn1, setB_get w₁ _ ob1 hbl1, ht1, hd1⟩
                    have hst1 : q₁.state = .ready := by simp [ALoop.state, hb1.1, hb1.2]
                    refine ⟨setB w₁ (θ₁.f l).blk ob1, ?_, ?_⟩
                    · rw [← hbl_eq]
                      unfold Instr.beginRound
                      refine hget1.bind (Runs.bind (.setObj hheap1 (fun _ _ _ => by simp)) ?_)
                      rw [hst1]
                      exact .pure _ _
                    · have hrnd1 : RndOk θ₁ (some l) := hrnd.mono g₁.le
                      have hfe : FE θ₁ (some l) = Fence.wide.inRound (θ.f l).blk := by rw [← hbl_eq]; rfl
                      rw [← hfe]
                      refine (hc2 θ₁ _ act₁ m _ r₂ ha₁ hrnd1 ?_).1
                      intro θ₂ w₂ act₂ e₂ he₂ r₃ g₃ _
                      obtain ⟨tm2, fn2, hget2, hheap2, ht2, hd2, hbl2⟩ := loop_get r₃ hg2
                      have hlx1 : l < θ₁.nx := Nat.lt_of_lt_of_le hlx g₁.le.nx
                      have hbl_eq2 : (θ₂.f l).blk = (θ.f l).blk := by rw [g₃.le.f l hlx1, hbl_eq]
                      -- the record at the round's end
                      have fin : ∀ (jump : Option Code) (st : LoopState) (q₃ : ALoop), st = (if jump.isNone then LoopState.ready else .done) → q₃.state = st → q₃.pending = jump → q₃.t = q₂.t → q₃.n = q₂.n → q₃.params = q₂.params → q₃.assign = q₂.assign → q₃.body = q₂.body → q₃.defers = q₂.defers →
                          v = .bool jump.isNone → h' = h₂.set l (.loop q₃) →
                          ∃ u w₄, (Instr.endRound (θ.f l).blk jump).run P w₂ = .ok u w₄ ∧ ∃ v' θ', Ending.returned u = .returned v' ∧ VRel θ' v v' ∧ Rep P θ' h' w₄ ∧ Goes θ h w θ' h' w₄ := by
                        intro jump st q₃ hst e1 e2 e3 e4 e5 e6 e7 e8 ev eh
                        subst ev eh
                        let ob : Obj := .loop { state := st, pending := jump, fn := fn2, tmps := tm2, params := q₂.params, assign := q₂.assign, body := q₂.body, defers := (θ₂.f q₂.defers).blk }
                        obtain ⟨r₄, g₄⟩ := r₃.turn (w' := setB w₂ (θ₂.f l).blk ob) (o' := .loop q₃) hg2 rfl rfl rfl rfl rfl (setB_size _ _ _) (fun c hc => setB_other w₂ ob hc)
                          ⟨tm2, fn2, by rw [setB_get w₂ _ ob hbl2, e1, e2, e5, e6, e7, e8], by rw [e3, e4]; exact ht2, by rw [e8]; exact hd2⟩
                        refine ⟨.bool jump.isNone, setB w₂ (θ₂.f l).blk ob, ?_, _, θ₂, rfl, .bool _, r₄, ((g₁.trans g₂).trans g₃).trans g₄⟩
                        rw [← hbl_eq2]
                        show Runs P _ _ _ _
                        unfold Instr.endRound
                        refine hget2.bind (Runs.bind (.setObj hheap2 (fun _ _ _ => by simp)) ?_)
                        rw [← hst]
                        exact .pure _ _
                      cases x with
                      | normal =>
                        cases e₂ <;> simp only [ERel] at he₂
                        simp only [Option.some.injEq, Prod.mk.injEq] at e
                        exact fin none .ready { q₂ with busy := false, done := false, pending := none } rfl rfl rfl rfl rfl rfl rfl rfl rfl e.1.symm e.2.symm
                      | exit id =>
                        cases e₂ <;> simp only [ERel] at he₂
                        subst he₂
                        simp only [Option.some.injEq, Prod.mk.injEq] at e
                        exact fin (some (.exit id)) .done { q₂ with busy := false, done := true, pending := some (.exit id) } rfl rfl rfl rfl rfl rfl rfl rfl rfl e.1.symm e.2.symm
                      | ret =>
                        cases e₂ <;> simp only [ERel] at he₂
                        simp only [Option.some.injEq, Prod.mk.injEq] at e
                        exact fin (some .ret) .done { q₂ with busy := false, done := true, pending := some .ret } rfl rfl rfl rfl rfl rfl rfl rfl rfl e.1.symm e.2.symm
                · cases e
              · cases e
          · cases e
        · cases e
    | _ => simp at e
end
end Go.AM
end

section
namespace Go.AM
open Go
section
variable {P : Program} {θ : Env} {h h' : AHeap} {w w' : World} {v : Value}

theorem aop_not_defer {a : AAct} {o : Op} {c : Call} (e : aop P a h o = some (v, h')) : o ≠ .defer c := by
  intro ho; subst ho; simp [aop] at e

theorem wanted_eq {ops : Array Oper} {a : AAct} {act : Act} (ha : ActRel θ a act) (o : Oper) : Region.wanted o (yielded ops act.tmps) = wantedA ops a o := by
  unfold Region.wanted wantedA yielded
  cases o.guard with
  | none => rfl
  | some g =>
    obtain ⟨j, want⟩ := g
    simp only
    cases hd : (ops[j]?).bind (·.dst) with
    | none => rfl
    | some t =>
      simp only [Option.bind_some]
      have ht := ha.tmp t
      by_cases hlt : t < act.tmps.size
      · rw [Array.getElem?_eq_getElem hlt]
        rw [show act.tmps.getD t undef = act.tmps[t] by simp [hlt]] at ht
        generalize act.tmps[t] = u at ht
        generalize a.tmp t = u0 at ht
        cases ht with
        | bool b => cases b <;> cases want <;> rfl
        | _ => rfl
      · rw [Array.getElem?_eq_none (Nat.le_of_not_lt hlt)]
        rw [show act.tmps.getD t undef = undef by simp [Nat.le_of_not_lt hlt]] at ht
        generalize a.tmp t = u0 at ht
        cases ht
        rfl

/-- One operation of a region. -/
theorem opRun_ok (hN : NamesOk P) {n : Nat} {ih : Run} (hih : RunOk P n ih) {o : Oper} {a : AAct} {act : Act} {rnd : Option Nat} (r : Rep P θ h w) (ha : ActRel θ a act) (e : opRun P ih o a h = some (v, h')) (m : Nat) (K : Act → World → Prop) (Q : Exit → Act → World → Prop)
    (hK : ∀ θ' w' v', Rep P θ' h' w' → Goes θ h w θ' h' w' → VRel θ' v v' → K (act.put o.dst v') w') : o.wpIn (FE θ rnd) m P act w K Q := by
  refine ⟨fun f _ => FE_fn θ rnd f, ?_⟩
  have plain : ∀ {s : Sem Next}, (o.semAt (FE θ rnd).round act.eval) = s → NextOk P θ h w s v h' → o.uponIn (FE θ rnd) m P act K Q ((o.semAt (FE θ rnd).round act.eval).run P w) := by
    intro s hs hok
    obtain ⟨v', w', θ', hr, hv, hrep, hg⟩ := hok
    rw [hs]
    rcases hr with hr | ⟨hr, rfl⟩
    · rw [show s.run P w = .ok (.value v') w' from hr]
      exact hK θ' w' v' hrep hg hv
    · rw [show s.run P w = .ok .skip w' from hr]
      exact hK θ' w' undef hrep hg hv
  unfold opRun at e
  cases ho : o.op with
  | call c =>
    simp only [ho] at e
    have hsem : o.semAt (FE θ rnd).round act.eval = execOp act.eval o := Oper.semAt_eq _ _ _ (fun c' hc => by rw [ho] at hc; cases hc)
    have hexec : execOp act.eval o = (do let d ← resolve act.eval c o.type; invoke d.target d.args) := by
      obtain ⟨dst, op, type, pos, after, guard⟩ := o
      simp only at ho
      subst ho
      rfl
    cases hargs : evs a c.args.toList with
    | none => rw [hargs] at e; cases e
    | some args =>
      rw [hargs] at e
      simp only at e
      have hal : LRel θ args (c.args.toList.map act.eval) := ha.evs hargs
      have hmap : (c.args.map act.eval) = (c.args.toList.map act.eval).toArray := by apply Array.toList_inj.1; simp
      cases hcal : c.callee with
      | builtin b =>
        rw [hcal] at e
        simp only at e
        refine plain (hsem.trans hexec) ?_
        have := builtin_ok r (ty := o.type) (consts := c.args.map fun | .const _ => true | _ => false) hal e
        obtain ⟨v', w', θ', hr, rest⟩ := this
        refine ⟨v', w', θ', ?_, rest⟩
        have hres : Runs P (resolve act.eval c o.type) w { target := .builtin b c.argTypes o.type (c.args.map fun | .const _ => true | _ => false), args := (c.args.toList.map act.eval).toArray } w := by
          unfold resolve
          rw [hcal, hmap]
          exact .pure _ _
        rcases hr with hr | ⟨hr, hu⟩
        · exact .inl (hres.bind hr)
        · exact .inr ⟨hres.bind hr, hu⟩
      | value f =>
        rw [hcal] at e
        simp only at e
        split at e
        · rename_i g first captured hf
          have hfv := ha.ev hf
          obtain ⟨u', c', hfe, hu, hc⟩ := hfv.func_inv
          split at e
          · rename_i v0 h0 hrun
            simp only [Option.some.injEq, Prod.mk.injEq] at e
            obtain ⟨rfl, rfl⟩ := e
            have hcall : CallOk P g (first.toList ++ args ++ captured.toList) h v0 h0 := hih _ _ _ _ hrun
            obtain ⟨⟨fn, cb, hfn, hbody⟩, hcl⟩ := hcall
            have hres : Runs P (do let d ← resolve act.eval c o.type; invoke d.target d.args) w (.enter g (u'.toList ++ c.args.toList.map act.eval ++ c'.toList).toArray) w := by
              refine Runs.bind (a := { target := .fn (.func g) c', args := u' ++ (c.args.toList.map act.eval).toArray }) (w₁ := w) ?_ ?_
              · unfold resolve
                rw [hcal, hmap]
                simp only [hfe]
                exact .pure _ _
              · have := callFunc_run (P := P) (w := w) hN hfn hbody ((u' ++ (c.args.toList.map act.eval).toArray) ++ c')
                have eq : ((u' ++ (c.args.toList.map act.eval).toArray) ++ c') = (u'.toList ++ c.args.toList.map act.eval ++ c'.toList).toArray := by apply Array.toList_inj.1; simp
                rw [eq] at this
                simp only [invoke]
                rw [eq]
                exact this
            rw [hsem, hexec]
            rw [show (do let d ← resolve act.eval c o.type; invoke d.target d.args : Sem Next).run P w = _ from hres]
            refine ⟨FE_depth θ rnd m, FE_calls ?_⟩
            refine (hcl θ w _ (m - 1) r ((hu.append hal).append hc)).mono ?_
            rintro e' w' ⟨v', θ', rfl, hv, hrep, hg⟩
            exact hK θ' w' v' hrep hg hv
          · cases e
        · rename_i l u1 u2 hf
          have hfv := ha.ev hf
          have hy : act.eval f = .func (.yield (θ.f l).blk) #[] #[] := by
            generalize act.eval f = z at hfv
            cases hfv
            rfl
          obtain ⟨fr, tmps, assign, body, hyr, hround⟩ := round_ok hih r hal e (m - 1)
          have hres : Runs P (do let d ← resolve act.eval c o.type; invoke d.target d.args) w (.round (θ.f l).blk fr tmps assign body) w := by
            refine Runs.bind (a := { target := .fn (.yield (θ.f l).blk) #[], args := #[] ++ (c.args.toList.map act.eval).toArray }) (w₁ := w) ?_ ?_
            · unfold resolve
              rw [hcal, hmap]
              simp only [hy]
              exact .pure _ _
            · simp only [invoke, Array.empty_append]
              exact hyr
          rw [hsem, hexec]
          rw [show (do let d ← resolve act.eval c o.type; invoke d.target d.args : Sem Next).run P w = _ from hres]
          have hround' : RoundIn (FE θ rnd) (m - 1) P (θ.f l).blk fr tmps assign body w fun e w' => ∃ v' θ', e = .returned v' ∧ VRel θ' v v' ∧ Rep P θ' h' w' ∧ Goes θ h w θ' h' w' := by
            cases rnd <;> exact hround
          refine ⟨FE_depth θ rnd m, hround'.mono ?_⟩
          rintro e' w' ⟨v', θ', rfl, hv, hrep, hg⟩
          exact hK θ' w' v' hrep hg hv
        · cases e
      | invoke rv mname => rw [hcal] at e; cases e
  | _ =>
    simp only [ho] at e
    have e' : aop P a h o.op = some (v, h') := by rw [ho]; exact e
    exact plain (Oper.semAt_eq _ _ _ (fun c' hc => aop_not_defer e' hc)) (aop_sound r ha o e')

theorem opAt_spec {ih : Run} {ops : Array Oper} {o : Oper} {a a' : AAct} (e : opAt P ih ops o a h = some (a', h')) :
    (wantedA ops a o = false ∧ a' = a.put o.dst undef ∧ h' = h) ∨ (wantedA ops a o = true ∧ ∃ u, opRun P ih o a h = some (u, h') ∧ a' = a.put o.dst u) := by
  unfold opAt at e
  cases hw : wantedA ops a o with
  | false =>
    rw [hw] at e
    simp only [Option.some.injEq, Prod.mk.injEq] at e
    exact .inl ⟨rfl, e.1.symm, e.2.symm⟩
  | true =>
    rw [hw] at e
    cases hr : opRun P ih o a h with
    | none => rw [hr] at e; cases e
    | some q =>
      rw [hr] at e
      obtain ⟨u, h1⟩ := q
      simp only [Option.some.injEq, Prod.mk.injEq] at e
      obtain ⟨rfl, rfl⟩ := e
      exact .inr ⟨rfl, u, rfl, rfl⟩
theorem opsRun_ok (hN : NamesOk P) {n : Nat} {ih : Run} (hih : RunOk P n ih) {ops : Array Oper} {rnd : Option Nat} {m : Nat} {Q : Exit → Act → World → Prop} {a' : AAct} : ∀ (l : List Oper) (k : Nat) (θ : Env) (h : AHeap) (w : World) (a : AAct) (act : Act), ops.toList.drop k = l → Rep P θ h w → ActRel θ a act → RndOk θ rnd →
    opsRun P ih ops l a h = some (a', h') → (∀ θ' w' act', Rep P θ' h' w' → Goes θ h w θ' h' w' → ActRel θ' a' act' → Q .normal act' w') → wpOpsIn (FE θ rnd) m P ops Q (List.range' k l.length) act w := by
  intro l
  induction l with
  | nil =>
    intro k θ h w a act _ r ha _ e hQ
    simp only [opsRun, Option.some.injEq, Prod.mk.injEq] at e
    obtain ⟨rfl, rfl⟩ := e
    exact hQ θ w act r (.refl _ _ _) ha
  | cons o l ihl =>
    intro k θ h w a act hdrop r ha hrnd e hQ
    have hget : ops[k]? = some o := by
      have : ops.toList[k]? = some o := by
        have := List.getElem?_drop (xs := ops.toList) (i := k) (j := 0)
        rw [hdrop] at this
        simpa using this.symm
      simpa using this
    have hdrop' : ops.toList.drop (k + 1) = l := by
      rw [← List.tail_drop, hdrop]; rfl
    rw [List.length_cons, List.range'_succ]
    simp only [wpOpsIn, hget]
    rw [wanted_eq ha]
    have e1 : ∃ q, opAt P ih ops o a h = some q ∧ opsRun P ih ops l q.1 q.2 = some (a', h') := by
      have : (Option.rec none (fun r => opsRun P ih ops l r.1 r.2) (opAt P ih ops o a h) : Option (AAct × AHeap)) = some (a', h') := e
      cases hq : opAt P ih ops o a h with
      | none => rw [hq] at this; cases this
      | some q => rw [hq] at this; exact ⟨q, rfl, this⟩
    obtain ⟨⟨a₁, h₁⟩, hq, hrest⟩ := e1
    rcases opAt_spec hq with ⟨hw, rfl, rfl⟩ | ⟨hw, u, hrun, rfl⟩
    · rw [hw]
      simp only [Bool.false_eq_true, if_false]
      exact ⟨fun f _ => FE_fn θ rnd f, ihl (k + 1) θ _ w _ _ hdrop' r (ha.put _ .undef) hrnd hrest hQ⟩
    · rw [hw]
      simp only [if_true]
      refine opRun_ok hN hih r ha hrun m _ _ ?_
      intro θ' w' v' r' g' hv'
      have := ihl (k + 1) θ' h₁ w' _ _ hdrop' r' ((ha.mono g'.le).put _ hv') (hrnd.mono g'.le) hrest (fun θ2 w2 act2 r2 g2 ha2 => hQ θ2 w2 act2 r2 (g'.trans g2) ha2)
      rwa [FE_le g'.le hrnd] at this
end
end Go.AM
end

section
namespace Go.AM
open Go
section
variable {P : Program} {θ : Env} {h h' : AHeap} {w w' : World} {v : Value}

theorem resultsOf_ok (r : Rep P θ h w) {a : AAct} {act : Act} (ha : ActRel θ a act) : ∀ {rs : List ResultVar} {vs : List Value}, resultsOf P a h rs = some vs →
    ∃ vs', Runs P (rs.mapM fun
      | .tmp t => (Pure.pure (act.tmps.getD t undef) : Sem Value)
      | .cell p t => do loadVar t (← asAddr (act.tmps.getD p undef))) w vs' w ∧ LRel θ vs vs'
  | [], vs, e => by
    obtain rfl : [] = vs := by simpa [resultsOf] using e
    exact ⟨[], .pure _ _, .nil⟩
  | .tmp t :: rs, vs, e => by
    simp only [resultsOf] at e
    cases hr : resultsOf P a h rs with
    | none => rw [hr] at e; cases e
    | some us =>
      rw [hr] at e
      obtain rfl : a.tmp t :: us = vs := by simpa using e
      obtain ⟨vs', p, q⟩ := resultsOf_ok r ha hr
      refine ⟨act.tmps.getD t undef :: vs', ?_, .cons (ha.tmp t) q⟩
      rw [List.mapM_cons]
      exact Runs.bind (.pure _ _) (p.bind (.pure _ _))
  | .cell p t :: rs, vs, e => by
    simp only [resultsOf] at e
    split at e
    · rename_i b off hp
      cases hl : loadAt P t h b off with
      | none => rw [hl] at e; cases e
      | some u =>
        rw [hl] at e
        simp only at e
        cases hr : resultsOf P a h rs with
        | none => rw [hr] at e; cases e
        | some us =>
          rw [hr] at e
          obtain rfl : u :: us = vs := by simpa using e
          obtain ⟨vs', x, y⟩ := resultsOf_ok r ha hr
          obtain ⟨u', hu, hv⟩ := loadVar_ok r hl
          have hpt := ha.tmp p
          rw [hp] at hpt
          obtain ⟨hpe, _⟩ := ptr_inv hpt
          refine ⟨u' :: vs', ?_, .cons hv y⟩
          rw [List.mapM_cons]
          refine Runs.bind (a := u') (w₁ := w) ?_ (x.bind (.pure _ _))
          simp only [hpe]
          exact Runs.bind (.pure _ _) hu
    · cases e

theorem one_rel {vs vs' : List Value} (r : LRel θ vs vs') : VRel θ (oneV vs) (if h : vs'.toArray.size = 1 then vs'.toArray[0] else .tuple vs'.toArray) := by
  cases vs with
  | nil => obtain rfl := r.nil_inv; exact flat_rel rfl
  | cons x l =>
    obtain ⟨x', m, rfl, hx, hm⟩ := r.cons_inv
    cases l with
    | nil => obtain rfl := hm.nil_inv; exact hx
    | cons y l =>
      obtain ⟨y', m', rfl, hy, hm'⟩ := hm.cons_inv
      rw [dif_neg (by simp)]
      exact .tuple' (by simpa using LRel.cons hx (.cons hy hm'))

theorem results_ok (r : Rep P θ h w) {a : AAct} {act : Act} (ha : ActRel θ a act) {fn : Func} {vs : List Value} (e : resultsOf P a h fn.results.toList = some vs) :
    ∃ u, Runs P (results fn act.tmps) w u w ∧ VRel θ (oneV vs) u := by
  obtain ⟨vs', p, q⟩ := resultsOf_ok r ha e
  refine ⟨_, ?_, one_rel q⟩
  unfold results
  refine Runs.bind (a := vs'.toArray) (w₁ := w) ?_ (.pure _ _)
  rw [Array.mapM_eq_mapM_toList]
  exact p.map

theorem dropMarks_ok {F : Fence} {m : Nat} {fn : Func} {tmps : Array Value} {R : Ending → World → Prop} {h₁ : AHeap} : ∀ {marks : List Nat} {h : AHeap} {w : World}, Rep P θ h w → dropMarks marks h = some h₁ →
    (∀ w₁, Rep P θ h₁ w₁ → Goes θ h w θ h₁ w₁ → LeavesIn F m P fn tmps R [] .returning w₁) → LeavesInM F m P fn tmps R (marks.map fun m => { target := .collected (θ.f m).blk, args := #[] }) .returning w
  | [], h, w, r, e, k => by
    obtain rfl : h = h₁ := by simpa [dropMarks] using e
    exact k w r (.refl _ _ _)
  | i :: marks, h, w, r, e, k => by
    simp only [dropMarks] at e
    cases hg : h.get i with
    | none => rw [hg] at e; cases e
    | some o =>
      rw [hg] at e
      cases o with
      | deferred =>
        simp only at e
        have hh : w.heap[(θ.f i).blk]? = some (.deferred (some [])) := (r.obj i _ hg).2.2
        obtain ⟨r₁, g₁⟩ := r.kill (w' := setB w (θ.f i).blk (.deferred none)) hg rfl rfl rfl rfl (setB_size _ _ _) (fun c hc => setB_other w _ hc)
        refine ⟨by simp, .inl ⟨(θ.f i).blk, setB w (θ.f i).blk (.deferred none), rfl, ?_, ?_⟩⟩
        · show Runs P _ _ _ _
          unfold Instr.takeDeferred
          exact (Runs.getObj hh (fun _ _ _ => by simp)).bind ((Runs.setObj hh (fun _ _ _ => by simp)).bind (.pure _ _))
        · exact dropMarks_ok r₁ e (fun w₁ r₂ g₂ => k w₁ r₂ (g₁.trans g₂))
      | _ => simp at e

theorem leave_ok (r : Rep P θ h w) {a : AAct} {act : Act} (ha : ActRel θ a act) {fn : Func} (e : leave P fn a h = some (.ret v, h')) {F : Fence} {m : Nat} {R : Ending → World → Prop}
    (hR : ∀ w' v', Rep P θ h' w' → Goes θ h w θ h' w' → VRel θ v v' → R (.returned v') w') : LeavesInM F m P fn act.tmps R act.defers .returning w := by
  unfold leave at e
  cases hd : dropMarks a.marks h with
  | none => rw [hd] at e; cases e
  | some h₁ =>
    rw [hd] at e
    simp only at e
    cases hv : resultsOf P a h₁ fn.results.toList with
    | none => rw [hv] at e; cases e
    | some vs =>
      rw [hv] at e
      simp only [Option.some.injEq, Prod.mk.injEq, AOut.ret.injEq] at e
      obtain ⟨rfl, rfl⟩ := e
      rw [ha.marks]
      refine dropMarks_ok r hd ?_
      intro w₁ r₁ g₁
      obtain ⟨u, hu, hrel⟩ := results_ok r₁ ha hv
      exact ⟨u, hu, hR w₁ u r₁ g₁ hrel⟩

theorem start_rel {args args' : List Value} (r : LRel θ args args') (n : Nat) {gl : Nat} (hg : ∀ g, g < gl → g < θ.nx ∧ θ.f g = ⟨g, 0, 0, 0⟩) : ActRel θ { t := Tr.nil.setAll 0 args, n := args.length + (n - args.length), marks := [], gl := gl } { tmps := args'.toArray ++ Array.replicate (n - args'.toArray.size) undef, defers := [] } := by
  have hl : args'.toArray.size = args.length := by simpa using r.len.symm
  refine ⟨⟨by rw [Array.size_append, hl]; simp, fun i => ?_⟩, rfl, (fun m hm => by cases hm), hg⟩
  rw [Tr.get_setAll]
  by_cases hi : i < args.length
  · rw [if_pos ⟨Nat.zero_le _, by omega⟩, Nat.sub_zero]
    obtain ⟨u, hu⟩ : ∃ u, args[i]? = some u := ⟨_, List.getElem?_eq_getElem hi⟩
    obtain ⟨u', hu', hrel⟩ := r.get hu
    rw [hu]
    have hi' : i < args'.length := by rw [← r.len]; exact hi
    have : (args'.toArray ++ Array.replicate (n - args'.toArray.size) undef).getD i undef = u' := by
      have h2 : (args'.toArray ++ Array.replicate (n - args'.toArray.size) undef)[i]? = some u' := by
        rw [Array.getElem?_append_left (by simpa using hi')]
        simpa using hu'
      rw [Array.getD_eq_getD_getElem?, h2]; rfl
    rw [this]
    exact hrel
  · rw [if_neg (by omega), Tr.get_nil]
    have : (args'.toArray ++ Array.replicate (n - args'.toArray.size) undef).getD i undef = undef := by
      rw [Array.getD_eq_getD_getElem?, Array.getElem?_append_right (by omega)]
      by_cases h2 : i - args'.toArray.size < n - args'.toArray.size
      · rw [Array.getElem?_replicate, if_pos h2]; rfl
      · rw [Array.getElem?_replicate, if_neg h2]; rfl
    rw [this]
    exact .undef
end
end Go.AM
end

section
namespace Go.AM
open Go
section
variable {P : Program} {θ : Env} {h h' : AHeap} {w w' : World} {v : Value}

/-- The rest of a piece of code, walked behind the first part. -/
theorem CodeOk.after {n : Nat} {rnd : Option Nat} {θ θ₁ : Env} {h₁ h' : AHeap} {w w₁ : World} {y : Code} {a₁ a' : AAct} {act₁ : Act} {x : AExit} (hy : CodeOk P n rnd y a₁ h₁ x a' h') (r₁ : Rep P θ₁ h₁ w₁) (g₁ : Goes θ h w θ₁ h₁ w₁) (ha₁ : ActRel θ₁ a₁ act₁) (hr : RndOk θ rnd) (m : Nat) {Q : Exit → Act → World → Prop}
    (hQ : ∀ (θ' : Env) (w' : World) (act' : Act) (e : Exit), ERel x e → Rep P θ' h' w' → Goes θ h w θ' h' w' → ActRel θ' a' act' → Q e act' w') :
    y.wpIn (FE θ rnd) m P Q act₁ w₁ ∧ (∀ body, y = .loop body → Code.roundsIn (FE θ rnd) m P body Q n act₁ w₁) := by
  have := hy θ₁ w₁ act₁ m Q r₁ ha₁ (hr.mono g₁.le) (fun θ' w' act' e he r' g' ha' => hQ θ' w' act' e he r' (g₁.trans g') ha')
  rwa [FE_le g₁.le hr] at this

theorem CodeOk.of_wp {n : Nat} {rnd : Option Nat} {c : Code} {a a' : AAct} {x : AExit} (hc : ∀ body, c ≠ .loop body)
    (k : ∀ (θ : Env) (w : World) (act : Act) (m : Nat) (Q : Exit → Act → World → Prop), Rep P θ h w → ActRel θ a act → RndOk θ rnd →
      (∀ (θ' : Env) (w' : World) (act' : Act) (e : Exit), ERel x e → Rep P θ' h' w' → Goes θ h w θ' h' w' → ActRel θ' a' act' → Q e act' w') → c.wpIn (FE θ rnd) m P Q act w) : CodeOk P n rnd c a h x a' h' :=
  fun θ w act m Q r ha hr hQ => ⟨k θ w act m Q r ha hr hQ, fun body e => absurd e (hc body)⟩

theorem then_of {K : Act → World → Prop} {Q : Exit → Act → World → Prop} {e : Exit} {act : Act} {w : World} (hne : e ≠ .normal) (hq : Q e act w) : Exit.then K Q e act w := by
  cases e <;> first | exact absurd rfl hne | exact hq

theorem seq_ok {n : Nat} {ih : Run} (hih : RunOk P n ih) {rnd : Option Nat} {fn : FuncId} {x y : Code} {a a' : AAct} {z : AExit}
    (e : (match ih (.code rnd fn x a) h with
      | some (.exit .normal a', h') => ih (.code rnd fn y a') h'
      | r => r) = some (.exit z a', h')) : CodeOk P (n+1) rnd (.seq x y) a h z a' h' := by
  cases hx : ih (.code rnd fn x a) h with
  | none => rw [hx] at e; cases e
  | some p =>
    obtain ⟨o, h₁⟩ := p
    rw [hx] at e
    have hc := hih _ _ _ _ hx
    cases o with
    | ret v => exact hc.elim
    | exit z₁ a₁ =>
      refine .of_wp (fun _ => by simp) fun θ w act m Q r ha hr hQ => wpIn_seq ?_
      cases z₁ with
      | normal =>
        refine (hc θ w act m _ r ha hr ?_).1
        intro θ₁ w₁ act₁ e₁ he₁ r₁ g₁ ha₁
        cases e₁ <;> simp only [ERel] at he₁
        exact (CodeOk.after (hih _ _ _ _ e) r₁ g₁ ha₁ hr m hQ).1
      | exit i =>
        obtain ⟨⟨rfl, rfl⟩, rfl⟩ : (z = .exit i ∧ a' = a₁) ∧ h' = h₁ := by simpa [eq_comm] using e
        refine (hc θ w act m _ r ha hr ?_).1
        intro θ₁ w₁ act₁ e₁ he₁ r₁ g₁ ha₁
        exact then_of (by rintro rfl; simp [ERel] at he₁) (hQ θ₁ w₁ act₁ e₁ he₁ r₁ g₁ ha₁)
      | ret =>
        obtain ⟨⟨rfl, rfl⟩, rfl⟩ : (z = .ret ∧ a' = a₁) ∧ h' = h₁ := by simpa [eq_comm] using e
        refine (hc θ w act m _ r ha hr ?_).1
        intro θ₁ w₁ act₁ e₁ he₁ r₁ g₁ ha₁
        exact then_of (by rintro rfl; simp [ERel] at he₁) (hQ θ₁ w₁ act₁ e₁ he₁ r₁ g₁ ha₁)

theorem loop_ok {n : Nat} {ih : Run} (hih : RunOk P n ih) {rnd : Option Nat} {fn : FuncId} {x : Code} {a a' : AAct} {z : AExit}
    (e : (match ih (.code rnd fn x a) h with
      | some (.exit .normal a', h') => ih (.code rnd fn (.loop x) a') h'
      | r => r) = some (.exit z a', h')) : CodeOk P (n+1) rnd (.loop x) a h z a' h' := by
  cases hx : ih (.code rnd fn x a) h with
  | none => rw [hx] at e; cases e
  | some p =>
    obtain ⟨o, h₁⟩ := p
    rw [hx] at e
    have hc := hih _ _ _ _ hx
    cases o with
    | ret v => exact hc.elim
    | exit z₁ a₁ =>
      intro θ w act m Q r ha hr hQ
      suffices hs : Code.roundsIn (FE θ rnd) m P x Q (n+1) act w from ⟨wpIn_loop_rounds (n+1) hs, fun body eb => by cases eb; exact hs⟩
      rw [roundsIn_succ]
      cases z₁ with
      | normal =>
        refine (hc θ w act m _ r ha hr ?_).1
        intro θ₁ w₁ act₁ e₁ he₁ r₁ g₁ ha₁
        cases e₁ <;> simp only [ERel] at he₁
        exact (CodeOk.after (hih _ _ _ _ e) r₁ g₁ ha₁ hr m hQ).2 x rfl
      | exit i =>
        obtain ⟨⟨rfl, rfl⟩, rfl⟩ : (z = .exit i ∧ a' = a₁) ∧ h' = h₁ := by simpa [eq_comm] using e
        refine (hc θ w act m _ r ha hr ?_).1
        intro θ₁ w₁ act₁ e₁ he₁ r₁ g₁ ha₁
        exact then_of (by rintro rfl; simp [ERel] at he₁) (hQ θ₁ w₁ act₁ e₁ he₁ r₁ g₁ ha₁)
      | ret =>
        obtain ⟨⟨rfl, rfl⟩, rfl⟩ : (z = .ret ∧ a' = a₁) ∧ h' = h₁ := by simpa [eq_comm] using e
        refine (hc θ w act m _ r ha hr ?_).1
        intro θ₁ w₁ act₁ e₁ he₁ r₁ g₁ ha₁
        exact then_of (by rintro rfl; simp [ERel] at he₁) (hQ θ₁ w₁ act₁ e₁ he₁ r₁ g₁ ha₁)

theorem cond_ok {n : Nat} {ih : Run} (hih : RunOk P n ih) {rnd : Option Nat} {fn : FuncId} {c : Operand} {x y : Code} {a a' : AAct} {z : AExit}
    (e : (match a.ev c with
      | some (.bool true) => ih (.code rnd fn x a) h
      | some (.bool false) => ih (.code rnd fn y a) h
      | _ => none) = some (.exit z a', h')) : CodeOk P (n+1) rnd (.cond c x y) a h z a' h' := by
  refine .of_wp (fun _ => by simp) fun θ w act m Q r ha hr hQ => ?_
  split at e
  · rename_i hc
    have hv := ha.ev hc
    have : act.eval c = .bool true := by generalize act.eval c = u at hv; cases hv; rfl
    exact wpIn_cond_true this (hih _ _ _ _ e θ w act m Q r ha hr hQ).1
  · rename_i hc
    have hv := ha.ev hc
    have : act.eval c = .bool false := by generalize act.eval c = u at hv; cases hv; rfl
    exact wpIn_cond_false this (hih _ _ _ _ e θ w act m Q r ha hr hQ).1
  · cases e

theorem block_ok {n : Nat} {ih : Run} (hih : RunOk P n ih) {rnd : Option Nat} {fn : FuncId} {id : Nat} {x : Code} {a a' : AAct} {z : AExit}
    (e : (match ih (.code rnd fn x a) h with
      | some (.exit (.exit j) a', h') => bif Nat.beq j id then some (.exit .normal a', h') else some (.exit (.exit j) a', h')
      | r => r) = some (.exit z a', h')) : CodeOk P (n+1) rnd (.block id x) a h z a' h' := by
  cases hx : ih (.code rnd fn x a) h with
  | none => rw [hx] at e; cases e
  | some p =>
    obtain ⟨o, h₁⟩ := p
    rw [hx] at e
    have hc := hih _ _ _ _ hx
    cases o with
    | ret v => exact hc.elim
    | exit z₁ a₁ =>
      refine .of_wp (fun _ => by simp) fun θ w act m Q r ha hr hQ => wpIn_block ?_
      refine (hc θ w act m _ r ha hr ?_).1
      intro θ₁ w₁ act₁ e₁ he₁ r₁ g₁ ha₁
      cases z₁ with
      | normal =>
        obtain ⟨⟨rfl, rfl⟩, rfl⟩ : (z = .normal ∧ a' = a₁) ∧ h' = h₁ := by simpa [eq_comm] using e
        cases e₁ <;> simp only [ERel] at he₁
        exact hQ θ₁ w₁ act₁ .normal trivial r₁ g₁ ha₁
      | ret =>
        obtain ⟨⟨rfl, rfl⟩, rfl⟩ : (z = .ret ∧ a' = a₁) ∧ h' = h₁ := by simpa [eq_comm] using e
        cases e₁ <;> simp only [ERel] at he₁
        exact hQ θ₁ w₁ act₁ .ret trivial r₁ g₁ ha₁
      | exit j =>
        cases e₁ <;> simp only [ERel] at he₁
        subst he₁
        simp only at e
        cases hj : Nat.beq j id with
        | true =>
          rw [hj] at e
          obtain ⟨⟨rfl, rfl⟩, rfl⟩ : (z = .normal ∧ a' = a₁) ∧ h' = h₁ := by simpa [eq_comm] using e
          obtain rfl := Nat.eq_of_beq_eq_true hj
          show Exit.inBlock j Q (.exit j) act₁ w₁
          simp only [Exit.inBlock, if_true]
          exact hQ θ₁ w₁ act₁ .normal trivial r₁ g₁ ha₁
        | false =>
          rw [hj] at e
          obtain ⟨⟨rfl, rfl⟩, rfl⟩ : (z = .exit j ∧ a' = a₁) ∧ h' = h₁ := by simpa [eq_comm] using e
          have hne : j ≠ id := Nat.ne_of_beq_eq_false hj
          show Exit.inBlock id Q (.exit j) act₁ w₁
          simp only [Exit.inBlock, if_neg hne]
          exact hQ θ₁ w₁ act₁ (.exit j) rfl r₁ g₁ ha₁
end
end Go.AM
end

section
namespace Go.AM
open Go
section
variable {P : Program} {θ : Env} {h h' : AHeap} {w w' : World} {v : Value}

theorem region_ok (hN : NamesOk P) {n : Nat} {ih : Run} (hih : RunOk P n ih) {rnd : Option Nat} {id : Nat} {ops : Array Oper} {a a' : AAct}
    (e : opsRun P ih ops ops.toList a h = some (a', h')) : CodeOk P (n+1) rnd (.region id ops false) a h .normal a' h' := by
  refine .of_wp (fun _ => by simp) fun θ w act m Q r ha hr hQ => wpIn_region ?_
  have := opsRun_ok hN hih (rnd := rnd) (m := m) (Q := Q) ops.toList 0 θ h w a act (by simp) r ha hr e (fun θ' w' act' r' g' ha' => hQ θ' w' act' .normal trivial r' g' ha')
  rw [List.range_eq_range']
  simpa using this

theorem call_ok {n : Nat} {ih : Run} (hih : RunOk P n ih) {f : FuncId} {args : List Value}
    (e : (match P.funcs[f]? with
    | none => none
    | some fn => match fn.body with
      | none => none
      | some c =>
        match ih (.code none f c { t := Tr.nil.setAll 0 args, n := args.length + (fn.ntmps - args.length), marks := [], gl := h.gl }) h with
        | some (.exit .normal a', h') | some (.exit .ret a', h') => leave P fn a' h'
        | _ => none) = some (.ret v, h')) : CallOk P f args h v h' := by
  cases hf : P.funcs[f]? with
  | none => rw [hf] at e; cases e
  | some fn =>
    rw [hf] at e
    simp only at e
    cases hb : fn.body with
    | none => rw [hb] at e; cases e
    | some c =>
      rw [hb] at e
      simp only at e
      refine ⟨⟨fn, c, hf, hb⟩, fun θ w args' m r ha => ?_⟩
      have key : ∀ x a₁ h₁, (x = .normal ∨ x = .ret) → CodeOk P n none c { t := Tr.nil.setAll 0 args, n := args.length + (fn.ntmps - args.length), marks := [], gl := h.gl } h x a₁ h₁ → leave P fn a₁ h₁ = some (.ret v, h') →
          CallsIn Fence.wide m P f args'.toArray w fun e w' => ∃ v' θ', e = .returned v' ∧ VRel θ' v v' ∧ Rep P θ' h' w' ∧ Goes θ h w θ' h' w' := by
        intro x a₁ h₁ hx hc hl
        refine callsIn_of_wp_marks hf hb trivial ?_
        refine (hc θ w _ m _ r (start_rel ha fn.ntmps r.glob) (fun l hl => by cases hl) ?_).1
        intro θ₁ w₁ act₁ e₁ he₁ r₁ g₁ ha₁
        have fin := leave_ok r₁ ha₁ hl (F := Fence.wide) (m := m) (R := fun e w' => ∃ v' θ', e = .returned v' ∧ VRel θ' v v' ∧ Rep P θ' h' w' ∧ Goes θ h w θ' h' w') (fun w' v' r' g' hv => ⟨v', θ₁, rfl, hv, r', g₁.trans g'⟩)
        rcases hx with rfl | rfl
        · cases e₁ <;> simp only [ERel] at he₁
          exact fin
        · cases e₁ <;> simp only [ERel] at he₁
          exact fin
      split at e
      · rename_i a₁ h₁ hrun
        exact key .normal a₁ h₁ (.inl rfl) (hih _ _ _ _ hrun) e
      · rename_i a₁ h₁ hrun
        exact key .ret a₁ h₁ (.inr rfl) (hih _ _ _ _ hrun) e
      · cases e

/-- The block for the rounds' deferred calls: laid, or the loop's around it. -/
theorem around_ok (r : Rep P θ h w) {rnd : Option Nat} {d : Nat} {marks : List Nat} {h₁ : AHeap}
    (e : (match rnd with
          | none => some (h.next, [h.next], h.new .deferred)
          | some l => match h.get l with
            | some (.loop r) => some (r.defers, [], h)
            | _ => none : Option (Nat × List Nat × AHeap)) = some (d, marks, h₁)) :
    ∃ (θ₁ : Env) (w₁ : World), (∀ {β : Type} (K : Nat × List Deferred → Sem β) (b : β) (w₂ : World), Runs P (K ((θ₁.f d).blk, marks.map fun m => ({ target := .collected (θ₁.f m).blk, args := #[] } : Deferred))) w₁ b w₂ →
      Runs P (match (FE θ rnd).round with
      | some l => do
        let x ← Instr.getLoop l
        let y ← Pure.pure (x.defers, ([] : List Deferred))
        K y
      | none => do
        let r ← newObj (.deferred (some []))
        let y ← Pure.pure (r, [({ target := .collected r, args := #[] } : Deferred)])
        K y : Sem β) w b w₂) ∧
      Rep P θ₁ h₁ w₁ ∧ Goes θ h w θ₁ h₁ w₁ ∧ d < θ₁.nx ∧ ∀ m ∈ marks, m < θ₁.nx := by
  cases rnd with
  | none =>
    simp only [Option.some.injEq, Prod.mk.injEq] at e
    obtain ⟨rfl, rfl, rfl⟩ := e
    obtain ⟨r₁, g₁⟩ := r.new (o := .deferred) (ob := .deferred (some [])) (th := ⟨w.heap.size, 0, 0, 0⟩) rfl (push_get _ _)
    have hx : ((θ.ext ⟨w.heap.size, 0, 0, 0⟩).f h.next).blk = w.heap.size := by rw [← r.nx, Env.ext_new]
    have hlt : h.next < (θ.ext ⟨w.heap.size, 0, 0, 0⟩).nx := by rw [← r.nx]; exact Nat.lt_succ_self _
    refine ⟨_, _, fun K b w₂ hK => ?_, r₁, g₁, hlt, fun m hm => ?_⟩
    · simp only [List.map_cons, List.map_nil, hx] at hK
      exact (Runs.new _ _).bind (Runs.bind (.pure _ _) hK)
    · simp only [List.mem_singleton] at hm; subst hm; exact hlt
  | some l =>
    simp only at e
    cases hg : h.get l with
    | none => rw [hg] at e; cases e
    | some o =>
      rw [hg] at e
      cases o with
      | loop q =>
        simp only [Option.some.injEq, Prod.mk.injEq] at e
        obtain ⟨rfl, rfl, rfl⟩ := e
        obtain ⟨tm, fn, hget, _, _, hd, _⟩ := loop_get r hg
        exact ⟨θ, w, fun K b w₂ hK => hget.bind (Runs.bind (.pure _ _) hK), r, .refl _ _ _, hd, fun m hm => by cases hm⟩
      | _ => simp at e
end
end Go.AM
end

section
namespace Go.AM
open Go
section
variable {P : Program} {θ : Env} {h h' : AHeap} {w w' : World} {v : Value}

theorem FE_calls_round {rnd : Option Nat} {n : Nat} {f : FuncId} {args : Array Value} {R : Ending → World → Prop} (hc : CallsIn Fence.wide n P f args w R) : CallsIn (FE θ rnd) n P f args w R := FE_calls hc

theorem rangeFunc_ok (hN : NamesOk P) {n : Nat} {ih : Run} (hih : RunOk P n ih) {rnd : Option Nat} {fn : FuncId} {f : Operand} {params : Array Tmp} {assign body : Code} {a a' : AAct} {z : AExit}
    (e : step P ih (.code rnd fn (.rangeFunc f params assign body) a) h = some (.exit z a', h')) : CodeOk P (n+1) rnd (.rangeFunc f params assign body) a h z a' h' := by
  refine .of_wp (fun _ => by simp) fun θ w act m Q r ha hrnd hQ => ?_
  simp only [step] at e
  split at e
  · rename_i g first captured hf
    split at e
    · cases e
    · rename_i d marks h₁ har
      split at e
      · rename_i v₃ h₃ hrun
        have hcall : CallOk P g _ _ v₃ h₃ := hih _ _ _ _ hrun
        obtain ⟨⟨gfn, gc, hgf, hgb⟩, hcl⟩ := hcall
        split at e
        · rename_i q hgl
          cases hb : q.busy with
          | true => rw [hb] at e; simp at e
          | false =>
            rw [hb] at e
            simp only [cond_false] at e
            obtain ⟨u', c', hfe, hu, hc⟩ := (ha.ev hf).func_inv
            obtain ⟨θ₁, w₁, hrun1, r₁, g₁, hd, hm⟩ := around_ok r har
            refine wpIn_rangeFunc fun fn' _ => ?_
            let ob : Obj := .loop { state := .ready, pending := none, fn := fn', tmps := act.tmps, params := params, assign := assign, body := body, defers := (θ₁.f d).blk }
            let θ₂ : Env := θ₁.ext ⟨w₁.heap.size, 0, 0, 0⟩
            have hlx : (θ₂.f h₁.next).blk = w₁.heap.size := by show ((θ₁.ext ⟨w₁.heap.size, 0, 0, 0⟩).f h₁.next).blk = _; rw [← r₁.nx, Env.ext_new]
            have hle : θ₁.Le θ₂ := Env.le_ext _ _
            have hd₂ : d < θ₂.nx := Nat.lt_of_lt_of_le hd hle.nx
            obtain ⟨r₂, g₂⟩ : Rep P θ₂ (h₁.new (.loop { busy := false, done := false, pending := none, fn, t := a.t, n := a.n, params, assign, body, defers := d })) (World.push w₁ ob) ∧ Goes θ₁ h₁ w₁ θ₂ (h₁.new (.loop { busy := false, done := false, pending := none, fn, t := a.t, n := a.n, params, assign, body, defers := d })) (World.push w₁ ob) :=
              r₁.new (th := ⟨w₁.heap.size, 0, 0, 0⟩) rfl ⟨act.tmps, fn', by rw [push_get]; show some ob = some _; simp only [ob, ALoop.state]; rw [hle.f d hd]; rfl, ha.t.mono (g₁.le.trans hle), hd₂⟩
            have hl₂ : h₁.next < θ₂.nx := by rw [← r₁.nx]; exact Nat.lt_succ_self _
            have hargs : LRel θ₂ (first.toList ++ [Value.func (.yield h₁.next) #[] #[]] ++ captured.toList) (u'.toList ++ [Value.func (.yield w₁.heap.size) #[] #[]] ++ c'.toList) := by
              refine ((hu.mono (g₁.le.trans hle)).append ?_).append (hc.mono (g₁.le.trans hle))
              rw [← hlx]
              exact .cons (.yield hl₂) .nil
            refine ⟨w₁.heap.size, marks.map fun m => ({ target := .collected (θ₁.f m).blk, args := #[] } : Deferred), World.push w₁ ob, { target := .fn (.func g) c', args := u' ++ #[Value.func (.yield w₁.heap.size) #[] #[]] }, World.push w₁ ob, g, (u'.toList ++ [Value.func (.yield w₁.heap.size) #[] #[]] ++ c'.toList).toArray, World.push w₁ ob, ?_, ?_, ?_, ?_, FE_depth θ rnd m, ?_⟩
            · show Runs P _ _ _ _
              unfold Instr.enterLoop
              refine hrun1 _ _ _ ?_
              exact Runs.bind (Runs.new ob w₁) (.pure _ _)
            · show Runs P _ _ _ _
              unfold resolve rangeCall
              simp only [hfe]
              rw [show Array.map act.eval #[Operand.const (Value.func (Fn.yield w₁.heap.size) #[] #[])] = #[Value.func (Fn.yield w₁.heap.size) #[] #[]] from by simp [Act.eval]]
              exact .pure _ _
            · intro f' _
              exact FE_fn θ rnd f'
            · show Runs P _ _ _ _
              have := callFunc_run (P := P) (w := World.push w₁ ob) hN hgf hgb ((u' ++ #[Value.func (.yield w₁.heap.size) #[] #[]]) ++ c')
              have he : (u' ++ #[Value.func (.yield w₁.heap.size) #[] #[]]) ++ c' = (u'.toList ++ [Value.func (.yield w₁.heap.size) #[] #[]] ++ c'.toList).toArray := by apply Array.toList_inj.1; simp
              rw [← he]
              exact this
            · refine FE_calls ((hcl θ₂ _ _ (m-1) r₂ hargs).mono ?_)
              rintro e' w₃ ⟨v', θ₃, rfl, hv, r₃, g₃⟩
              obtain ⟨tm, fn₃, hget, hheap, ht, hd₃, hbl⟩ := loop_get r₃ hgl
              have hlx₃ : (θ₃.f h₁.next).blk = w₁.heap.size := by rw [g₃.le.f _ hl₂, hlx]
              rw [hlx₃] at hget hheap hbl
              let ob3 : Obj := (.loop { state := .exhausted, pending := q.pending, fn := fn₃, tmps := tm, params := q.params, assign := q.assign, body := q.body, defers := (θ₃.f q.defers).blk })
              obtain ⟨r₄, g₄⟩ := r₃.kill (w' := setB w₃ w₁.heap.size ob3) hgl rfl rfl rfl rfl (setB_size _ _ _) (fun c hc => setB_other w₃ _ (by rw [← hlx₃]; exact hc))
              have gAll := (((g₁.trans g₂).trans g₃).trans g₄)
              have haA : ActRel θ₃ { a with marks := marks ++ a.marks } { act with defers := (marks.map fun m => ({ target := .collected (θ₁.f m).blk, args := #[] } : Deferred)) ++ act.defers } := by
                have hm3 := ha.mono gAll.le
                have hle13 : θ₁.Le θ₃ := hle.trans g₃.le
                refine ⟨hm3.t, ?_, fun x hx => ?_, hm3.gl⟩
                · simp only [List.map_append]
                  rw [← hm3.marks]
                  congr 1
                  exact List.map_congr_left fun x hx => by rw [hle13.f x (hm x hx)]
                · rcases List.mem_append.1 hx with hx | hx
                  · exact Nat.lt_of_lt_of_le (hm x hx) hle13.nx
                  · exact hm3.lt x hx
              refine ⟨q.pending, setB w₃ w₁.heap.size ob3, ?_, ?_⟩
              · show Runs P _ _ _ _
                unfold Instr.endLoop
                refine hget.bind ?_
                have hst : (q.state == LoopState.busy) = false := by
                  cases hdn : q.done <;> simp [ALoop.state, hb, hdn] <;> rfl
                simp only [hst, Bool.false_eq_true, if_false]
                exact Runs.bind (.setObj hheap (fun _ _ _ => by simp)) (.pure _ _)
              · cases hp : q.pending with
                | none =>
                  rw [hp] at e
                  simp only [Option.some.injEq, Prod.mk.injEq, AOut.exit.injEq] at e
                  obtain ⟨⟨rfl, rfl⟩, rfl⟩ := e
                  exact hQ θ₃ _ _ .normal trivial r₄ gAll haA
                | some c =>
                  rw [hp] at e
                  cases c <;> simp only [Option.some.injEq, Prod.mk.injEq, AOut.exit.injEq] at e <;> try (cases e; done)
                  · obtain ⟨⟨rfl, rfl⟩, rfl⟩ := e
                    exact wpIn_exit (hQ θ₃ _ _ _ rfl r₄ gAll haA)
                  · obtain ⟨⟨rfl, rfl⟩, rfl⟩ := e
                    exact wpIn_ret (hQ θ₃ _ _ _ trivial r₄ gAll haA)
        · cases e
      · cases e
  · cases e
end
end Go.AM
end

section
namespace Go.AM
open Go
section
variable {P : Program}

theorem leave_no_exit {fn : Func} {a a' : AAct} {h h' : AHeap} {x : AExit} (e : leave P fn a h = some (.exit x a', h')) : False := by
  unfold leave at e
  split at e
  · cases e
  · split at e
    · cases e
    · simp at e

theorem code_ret {n : Nat} {ih : Run} (hih : RunOk P n ih) {rnd : Option Nat} {fn : FuncId} {c : Code} {a : AAct} {h h' : AHeap} {v : Value} (e : ih (.code rnd fn c a) h = some (.ret v, h')) : False :=
  hih _ _ _ _ e

theorem step_code_ret {n : Nat} {ih : Run} (hih : RunOk P n ih) {rnd : Option Nat} {fn : FuncId} {c : Code} {a : AAct} {h h' : AHeap} {v : Value} (e : step P ih (.code rnd fn c a) h = some (.ret v, h')) : False := by
  cases c with
  | skip => simp [step] at e
  | label l => simp [step] at e
  | exit id => simp [step] at e
  | ret => simp [step] at e
  | seq x y =>
    simp only [step] at e
    split at e
    · exact code_ret hih e
    · exact code_ret hih e
  | loop x =>
    simp only [step] at e
    split at e
    · exact code_ret hih e
    · exact code_ret hih e
  | cond c x y =>
    simp only [step] at e
    split at e
    · exact code_ret hih e
    · exact code_ret hih e
    · cases e
  | block id x =>
    simp only [step] at e
    split at e
    · rename_i j a' h₁ _
      cases hj : Nat.beq j id <;> rw [hj] at e <;> simp at e
    · exact code_ret hih e
  | region id ops dr =>
    cases dr with
    | true => simp [step] at e
    | false =>
      simp only [step] at e
      split at e
      · simp at e
      · cases e
  | rangeFunc f ps x y =>
    simp only [step] at e
    split at e
    · split at e
      · cases e
      · split at e
        · split at e
          · rename_i q _
            cases hb : q.busy <;> rw [hb] at e
            · simp only [cond_false] at e
              split at e <;> simp at e
            · simp at e
          · cases e
        · cases e
    · cases e
  | _ => simp [step] at e

theorem step_ok (hN : NamesOk P) {n : Nat} {ih : Run} (hih : RunOk P n ih) : RunOk P (n+1) (step P ih) := by
  intro t h o h' e
  cases t with
  | call f args =>
    cases o with
    | exit x a' =>
      exfalso
      simp only [step] at e
      split at e
      · cases e
      · split at e
        · cases e
        · split at e
          · exact leave_no_exit e
          · exact leave_no_exit e
          · cases e
    | ret v => exact call_ok hih e
  | code rnd fn c a =>
    cases o with
    | ret v =>
      exfalso
      exact step_code_ret hih e
    | exit z a' =>
      show CodeOk P (n+1) rnd c a h z a' h'
      cases c with
      | skip =>
        obtain ⟨⟨rfl, rfl⟩, rfl⟩ : (z = .normal ∧ a' = a) ∧ h' = h := by simpa [step, eq_comm] using e
        exact .of_wp (fun _ => by simp) fun θ w act m Q r ha hr hQ => wpIn_skip (hQ θ w act .normal trivial r (.refl _ _ _) ha)
      | label l =>
        obtain ⟨⟨rfl, rfl⟩, rfl⟩ : (z = .normal ∧ a' = a) ∧ h' = h := by simpa [step, eq_comm] using e
        exact .of_wp (fun _ => by simp) fun θ w act m Q r ha hr hQ => wpIn_label (hQ θ w act .normal trivial r (.refl _ _ _) ha)
      | exit id =>
        obtain ⟨⟨rfl, rfl⟩, rfl⟩ : (z = .exit id ∧ a' = a) ∧ h' = h := by simpa [step, eq_comm] using e
        exact .of_wp (fun _ => by simp) fun θ w act m Q r ha hr hQ => wpIn_exit (hQ θ w act (.exit id) rfl r (.refl _ _ _) ha)
      | ret =>
        obtain ⟨⟨rfl, rfl⟩, rfl⟩ : (z = .ret ∧ a' = a) ∧ h' = h := by simpa [step, eq_comm] using e
        exact .of_wp (fun _ => by simp) fun θ w act m Q r ha hr hQ => wpIn_ret (hQ θ w act .ret trivial r (.refl _ _ _) ha)
      | seq x y => exact seq_ok hih e
      | cond c x y => exact cond_ok hih e
      | block id x => exact block_ok hih e
      | loop x => exact loop_ok hih e
      | region id ops dr =>
        cases dr with
        | true => simp [step] at e
        | false =>
          simp only [step] at e
          split at e
          · rename_i a₁ h₁ hr
            obtain ⟨⟨rfl, rfl⟩, rfl⟩ : (z = .normal ∧ a' = a₁) ∧ h' = h₁ := by simpa [eq_comm] using e
            exact region_ok hN hih hr
          · cases e
      | rangeFunc f ps x y => exact rangeFunc_ok hN hih e
      | _ => simp [step] at e

theorem run_ok (hN : NamesOk P) : ∀ n, RunOk P n (run P n)
  | 0 => fun t h o h' e => by cases e
  | n + 1 => step_ok hN (run_ok hN n)

/-- **What the abstract machine returns, the program returns**: from a world whose heap the abstract heap speaks of. -/
theorem callV_sound (hN : NamesOk P) {n : Nat} {f : FuncId} {args args' : List Value} {h h' : AHeap} {v : Value} {θ : Env} {w : World} (e : callV P n f args h = some (v, h')) (r : Rep P θ h w) (ha : LRel θ args args') :
    Calls P f args'.toArray w fun e w' => ∃ v' θ', e = .returned v' ∧ VRel θ' v v' ∧ Rep P θ' h' w' ∧ Goes θ h w θ' h' w' := by
  unfold callV at e
  split at e
  · rename_i u h₁ hr
    simp only [Option.some.injEq, Prod.mk.injEq] at e
    obtain ⟨rfl, rfl⟩ := e
    have hc : CallOk P f args h u h₁ := run_ok hN n _ _ _ _ hr
    exact (callsIn_wide (n := 0)).1 (hc.2 θ w args' 0 r ha)
  · cases e
end
end Go.AM
end

section
namespace Go.AM
open Go Go.RowKit
section
variable {P : Program}

/-- The environment of the empty abstract heap. -/
def θ0 : Env := { f := fun _ => ⟨0, 0, 0, 0⟩, nx := 0 }
noncomputable def h0 : AHeap := ⟨.nil, 0, 0⟩
theorem get_h0 (i : Nat) : h0.get i = none := Tr.get_nil _
theorem rep0 (w : World) : Rep P θ0 h0 w :=
  ⟨rfl, fun i o e => (by rw [get_h0] at e; cases e), fun i j oi oj e => (by rw [get_h0] at e; cases e), fun i hi => absurd hi (Nat.not_lt_zero i), fun g hg => absurd hg (Nat.not_lt_zero g)⟩
theorem Goes.below {θ θ' : Env} {h h' : AHeap} {w w' : World} (g : Goes θ h w θ' h' w') (hn : ∀ i o, h.get i = some o → o.wr = false) : Below w.heap.size w w' :=
  ⟨g.os, g.tape, g.output, g.size, fun k hk => g.frame k hk (fun ⟨i, o, e, hw, _⟩ => by rw [hn i o e] at hw; cases hw)⟩

/-- **A closed call**: reckoned with nothing on the heap, it returns so from any world, and keeps what lies there. -/
theorem closed_call (hN : NamesOk P) {n : Nat} {f : FuncId} {args : List Value} {h' : AHeap} {v : Value} {w : World} (e : callV P n f args h0 = some (v, h')) (ha : args.all flat = true) :
    Calls P f args.toArray w fun e w' => ∃ v' θ', e = .returned v' ∧ VRel θ' v v' ∧ Rep P θ' h' w' ∧ Below w.heap.size w w' :=
  (callV_sound hN e (rep0 w) (flats_rel ha)).mono fun _ _ ⟨v', θ', a, b, c, d⟩ => ⟨v', θ', a, b, c, d.below fun i o e => by rw [get_h0] at e; cases e⟩
end
end Go.AM
end

section
namespace Go.AM
open Go
section
variable {P : Program}

/-- Operations whose value does not hang on the heap, and which leave it. -/
def pureOp : Op → Bool
  | .move _ | .assign _ | .pick .. | .build .. | .nilCheck _ | .binOp .. | .unOp .. | .convert .. | .makeFunc .. | .fieldAddr .. | .field .. | .indexAddr .. | .index .. | .extract .. => true
  | _ => false
/-- Operations that read the heap, and leave it. -/
def readOp : Op → Bool
  | .load .. | .lookup .. | .slice .. => true
  | .call { callee := .builtin .len, .. } | .call { callee := .builtin .cap, .. } | .call { callee := .builtin .min, .. } | .call { callee := .builtin .max, .. } => true
  | o => pureOp o

theorem keepAt_spec {h h' : AHeap} {q : Option Value} {v : Value} (e : keep h q = some (v, h')) : q = some v ∧ h' = h := by
  cases q with
  | none => cases e
  | some u =>
    simp only [keep, Option.some.injEq, Prod.mk.injEq] at e
    exact ⟨by rw [e.1], e.2.symm⟩
theorem keep_at {h h' : AHeap} {q : Option Value} {v : Value} (e : keep h q = some (v, h')) : h' = h ∧ ∀ h₂, keep h₂ q = some (v, h₂) := by
  obtain ⟨rfl, rfl⟩ := keepAt_spec e
  exact ⟨rfl, fun _ => rfl⟩

theorem aop_pure {a : AAct} {h h' : AHeap} {o : Op} {v : Value} (hp : pureOp o = true) (e : aop P a h o = some (v, h')) : h' = h ∧ ∀ h₂, aop P a h₂ o = some (v, h₂) := by
  cases o <;> simp only [pureOp, Bool.false_eq_true] at hp <;> simp only [aop] at e ⊢
  all_goals first
    | exact keep_at e
    | (unfold on1 at e ⊢; split at e
       · exact keep_at e
       · cases e)
    | (unfold on2 at e ⊢; split at e
       · split at e
         · exact keep_at e
         · cases e
       · cases e)
    | (unfold onL at e ⊢; split at e
       · exact keep_at e
       · cases e)

theorem opRun_pure {ih : Run} {a : AAct} {h h' : AHeap} {o : Oper} {v : Value} (hp : pureOp o.op = true) (e : opRun P ih o a h = some (v, h')) : h' = h ∧ ∀ h₂, opRun P ih o a h₂ = some (v, h₂) := by
  unfold opRun at e ⊢
  split at e
  · rename_i c hc; rw [hc] at hp; cases hp
  · rename_i hc
    obtain ⟨a1, a2⟩ := aop_pure hp e
    exact ⟨a1, fun h₂ => a2 h₂⟩

theorem evs_congr {a b : AAct} : ∀ {xs : List Operand}, (∀ x ∈ xs, a.ev x = b.ev x) → evs a xs = evs b xs
  | [], _ => rfl
  | x :: xs, hx => by
    simp only [evs, hx x List.mem_cons_self, evs_congr (fun y hy => hx y (List.mem_cons_of_mem _ hy))]
end
end Go.AM
end

section
namespace Go.AM
open Go
section
variable {P : Program}

/-- Two activations give the operands of an operation the same values. -/
def SameOn (a b : AAct) (o : Op) : Prop := ∀ x ∈ o.operands, a.ev x = b.ev x

theorem aop_congr {a b : AAct} {h : AHeap} {o : Op} (hs : SameOn a b o) : aop P a h o = aop P b h o := by
  cases o with
  | build t ps =>
    have : evs a (ps.toList.map (·.2)) = evs b (ps.toList.map (·.2)) := evs_congr fun x hx => hs x (by simpa [Op.operands] using hx)
    simp only [aop, this]
  | buildSlice t n ps =>
    have : evs a (ps.toList.map (·.2)) = evs b (ps.toList.map (·.2)) := evs_congr fun x hx => hs x (by simpa [Op.operands] using hx)
    simp only [aop, this]
  | makeFunc fn first captured =>
    have h1 : evs a first.toList = evs b first.toList := evs_congr fun x hx => hs x (by simp only [Op.operands, Array.mem_append]; exact .inl (by simpa using hx))
    have h2 : evs a captured.toList = evs b captured.toList := evs_congr fun x hx => hs x (by simp only [Op.operands, Array.mem_append]; exact .inr (by simpa using hx))
    simp only [aop, aMakeFunc, h1, h2]
  | makeMap t r =>
    cases r with
    | none => rfl
    | some x =>
      have : a.ev x = b.ev x := hs x (by simp [Op.operands])
      simp only [aop, aMakeMap, this]
  | slice t x lo hi mx =>
    have h0 : a.ev x = b.ev x := hs x (by simp [Op.operands])
    have h1 : optI a lo = optI b lo := by
      cases lo with
      | none => rfl
      | some y => simp only [optI, hs y (by simp [Op.operands])]
    have h2 : optI a hi = optI b hi := by
      cases hi with
      | none => rfl
      | some y => simp only [optI, hs y (by simp [Op.operands])]
    have h3 : optI a mx = optI b mx := by
      cases mx with
      | none => rfl
      | some y => simp only [optI, hs y (by simp [Op.operands])]
    simp only [aop, aSliceOp, h0, h1, h2, h3]
  | pick c x y =>
    have h0 : a.ev c = b.ev c := hs c (by simp [Op.operands])
    have h1 : a.ev x = b.ev x := hs x (by simp [Op.operands])
    have h2 : a.ev y = b.ev y := hs y (by simp [Op.operands])
    simp only [aop, aPick, h0, h1, h2]
  | insert t x k u =>
    have h0 : a.ev x = b.ev x := hs x (by simp [Op.operands])
    have h1 : a.ev k = b.ev k := hs k (by simp [Op.operands])
    have h2 : a.ev u = b.ev u := hs u (by simp [Op.operands])
    simp only [aop, h0, h1, h2]
  | mapUpdate t x k u =>
    have h0 : a.ev x = b.ev x := hs x (by simp [Op.operands])
    have h1 : a.ev k = b.ev k := hs k (by simp [Op.operands])
    have h2 : a.ev u = b.ev u := hs u (by simp [Op.operands])
    simp only [aop, h0, h1, h2]
  | next x s =>
    have h0 : a.ev x = b.ev x := hs x (by simp [Op.operands])
    cases s <;> simp only [aop, h0]
  | move x | assign x | box _ x | load _ x | nilCheck x | unOp _ _ x | convert _ _ x | fieldAddr _ x _ | field _ x _ | range _ x | extract x _ =>
    have h0 : a.ev x = b.ev x := hs x (by simp [Op.operands])
    simp only [aop, h0]
  | store _ x y | binOp _ _ x y _ | makeSlice _ x y | indexAddr _ x y | index _ x y | lookup _ x y _ =>
    have h0 : a.ev x = b.ev x := hs x (by simp [Op.operands])
    have h1 : a.ev y = b.ev y := hs y (by simp [Op.operands])
    simp only [aop, h0, h1]
  | _ => rfl

theorem opRun_congr {ih : Run} {a b : AAct} {h : AHeap} {o : Oper} (hs : SameOn a b o.op) : opRun P ih o a h = opRun P ih o b h := by
  unfold opRun
  split
  · rename_i c hc
    rw [hc] at hs
    have h1 : evs a c.args.toList = evs b c.args.toList := evs_congr fun x hx => hs x (by
      simp only [Op.operands, Call.operands]
      cases c.callee <;> simp_all)
    rw [h1]
    cases evs b c.args.toList with
    | none => rfl
    | some args =>
      cases hcal : c.callee with
      | builtin b => rfl
      | invoke r n => rfl
      | value f =>
        have h2 : a.ev f = b.ev f := hs f (by simp [Op.operands, Call.operands, hcal])
        simp only [h2]
  · exact aop_congr hs
end
end Go.AM
end

section
namespace Go.AM
open Go
section

/-- The operations of the same region that an operation waits for. -/
def edgesOf (o : Oper) : List Nat := (o.after.toList.filter (Region.binds .any)).map (·.on)

/-- M says of each operation which ones come before it: each is waited for, or comes before one that is. -/
structure AncOk (E : Nat → List Nat) (M : Nat → Nat → Bool) (n : Nat) : Prop where
  low : ∀ j, j < n → ∀ e ∈ E j, e < j
  step : ∀ j, j < n → ∀ i, M j i = true → ∃ e ∈ E j, e = i ∨ M e i = true

/-- A set that is closed downward along the edges is closed along M. -/
theorem AncOk.down {E : Nat → List Nat} {M : Nat → Nat → Bool} {n : Nat} (h : AncOk E M n) {S : Nat → Prop} (hS : ∀ j, j < n → S j → ∀ e ∈ E j, S e) {i : Nat} : ∀ j, j < n → S j → M j i = true → S i := by
  intro j
  induction j using Nat.strongRecOn with
  | _ j ih =>
    intro hj hs hm
    obtain ⟨e, he, h1⟩ := h.step j hj i hm
    have hlt := h.low j hj e he
    rcases h1 with rfl | h1
    · exact hS j hj hs e he
    · exact ih e hlt (Nat.lt_trans hlt hj) (hS j hj hs e he) h1
theorem AncOk.lt {E : Nat → List Nat} {M : Nat → Nat → Bool} {n : Nat} (h : AncOk E M n) {i : Nat} : ∀ j, j < n → M j i = true → i < j := by
  intro j
  induction j using Nat.strongRecOn with
  | _ j ih =>
    intro hj hm
    obtain ⟨e, he, h1⟩ := h.step j hj i hm
    have hlt := h.low j hj e he
    rcases h1 with rfl | h1
    · exact hlt
    · exact Nat.lt_trans (ih e hlt (Nat.lt_trans hlt hj) h1) hlt

theorem namesOk_of {P : Program} (h : P.funcs.toList.all (fun fn => !(fn.name == "runtime.NumGoroutine")) = true) : NamesOk P := by
  intro f fn e
  have hm : fn ∈ P.funcs.toList := by
    rw [Array.mem_toList_iff]; exact Array.mem_of_getElem? e
  have := List.all_eq_true.1 h fn hm
  simpa using this
end
end Go.AM
end

section
namespace Go.AM
open Go
section

theorem AAct.put_n (a : AAct) (d : Option Tmp) (v : Value) : (a.put d v).n = a.n := by
  cases d with
  | none => rfl
  | some d => rw [AAct.put_some]; split <;> rfl
theorem AAct.put_marks (a : AAct) (d : Option Tmp) (v : Value) : (a.put d v).marks = a.marks := by
  cases d with
  | none => rfl
  | some d => rw [AAct.put_some]; split <;> rfl
theorem AAct.put_gl (a : AAct) (d : Option Tmp) (v : Value) : (a.put d v).gl = a.gl := by
  cases d with
  | none => rfl
  | some d => rw [AAct.put_some]; split <;> rfl
theorem AAct.put_other (a : AAct) {d : Option Tmp} (v : Value) {t : Tmp} (h : d ≠ some t) : (a.put d v).tmp t = a.tmp t := by
  cases d with
  | none => rfl
  | some d =>
    rw [AAct.put_some]
    split
    · unfold AAct.tmp
      rw [Tr.get_set, if_neg (fun e => h (by rw [e]))]
    · rfl
/-- What a temporary holds behind a put of its own. -/
theorem AAct.put_self (a : AAct) (v : Value) (t : Tmp) : (a.put (some t) v).tmp t = if t < a.n then v else a.tmp t := by
  rw [AAct.put_some]
  split
  · unfold AAct.tmp
    rw [Tr.get_set, if_pos rfl]
  · rfl

/-- The activation that has the values of the operations of S, and else what a0 has. -/
structure Same (a0 : AAct) (ops : Array Oper) (v : Nat → Value) (S : Nat → Prop) (a : AAct) : Prop where
  n : a.n = a0.n
  marks : a.marks = a0.marks
  gl : a.gl = a0.gl
  old : ∀ t : Tmp, (∀ i o, S i → ops[i]? = some o → o.dst ≠ some t) → a.tmp t = a0.tmp t
  new : ∀ (t : Tmp) i o, S i → ops[i]? = some o → o.dst = some t → a.tmp t = if t < a0.n then v i else a0.tmp t

theorem Same.start (a0 : AAct) (ops : Array Oper) (v : Nat → Value) {S : Nat → Prop} (h : ∀ i, ¬ S i) : Same a0 ops v S a0 :=
  ⟨rfl, rfl, rfl, fun _ _ => rfl, fun _ i _ hi => absurd hi (h i)⟩

/-- Each temporary is written by one operation of the region at most. -/
def OneWriter (ops : Array Oper) : Prop := ∀ (i j : Nat) (o p : Oper) (t : Tmp), ops[i]? = some o → ops[j]? = some p → o.dst = some t → p.dst = some t → i = j

theorem Same.put {a0 a : AAct} {ops : Array Oper} {v : Nat → Value} {S S' : Nat → Prop} {i : Nat} {o : Oper} (h : Same a0 ops v S a) (h1 : OneWriter ops) (ho : ops[i]? = some o) (hi : ¬ S i) (hS : ∀ j, S' j ↔ S j ∨ j = i) : Same a0 ops v S' (a.put o.dst (v i)) := by
  refine ⟨(a.put_n _ _).trans h.n, (a.put_marks _ _).trans h.marks, (a.put_gl _ _).trans h.gl, fun t ht => ?_, fun t j p hj hp hd => ?_⟩
  · rw [AAct.put_other a _ (ht i o ((hS i).2 (.inr rfl)) ho)]
    exact h.old t fun j p hj => ht j p ((hS j).2 (.inl hj))
  · rcases (hS j).1 hj with hj | rfl
    · have hne : o.dst ≠ some t := fun e => hi (by rw [h1 i j o p t ho hp e hd]; exact hj)
      rw [AAct.put_other a _ hne]
      exact h.new t j p hj hp hd
    · obtain rfl : o = p := by rw [ho] at hp; exact Option.some.inj hp
      rw [hd, AAct.put_self, h.n]
      split
      · rfl
      · exact h.old t fun k q hk hq hdq => hi (by rw [h1 j k o q t ho hq hd hdq]; exact hk)

/-- Two sets that hold the same writers of t give it the same value. -/
theorem Same.agree {a0 a b : AAct} {ops : Array Oper} {v : Nat → Value} {S T : Nat → Prop} (ha : Same a0 ops v S a) (hb : Same a0 ops v T b) {t : Tmp} (h : ∀ i o, ops[i]? = some o → o.dst = some t → (S i ↔ T i)) : a.tmp t = b.tmp t := by
  by_cases hw : ∃ i o, S i ∧ ops[i]? = some o ∧ o.dst = some t
  · obtain ⟨i, o, hi, ho, hd⟩ := hw
    rw [ha.new t i o hi ho hd, hb.new t i o ((h i o ho hd).1 hi) ho hd]
  · rw [ha.old t fun i o hi ho hd => hw ⟨i, o, hi, ho, hd⟩, hb.old t fun i o hi ho hd => hw ⟨i, o, (h i o ho hd).2 hi, ho, hd⟩]

theorem Same.ev {a0 a b : AAct} {ops : Array Oper} {v : Nat → Value} {S T : Nat → Prop} (ha : Same a0 ops v S a) (hb : Same a0 ops v T b) {x : Operand} (h : ∀ (t : Tmp) i o, x = .tmp t → ops[i]? = some o → o.dst = some t → (S i ↔ T i)) : a.ev x = b.ev x := by
  cases x with
  | tmp t => rw [AAct.ev_tmp, AAct.ev_tmp, ha.agree hb (fun i o => h t i o rfl)]
  | const v => rw [AAct.ev_const, AAct.ev_const]
  | global g => rw [AAct.ev_global, AAct.ev_global, ha.gl, hb.gl]
  | func f => rfl

theorem Same.rel {θ : Env} {a0 a b : AAct} {ops : Array Oper} {v : Nat → Value} {S : Nat → Prop} (ha : Same a0 ops v S a) (hb : Same a0 ops v S b) {act : Act} (r : ActRel θ a act) : ActRel θ b act := by
  refine ⟨⟨?_, fun i => ?_⟩, ?_, ?_, ?_⟩
  · rw [r.t.size, ha.n, hb.n]
  · have := r.t.at_ i
    have he : a.tmp i = b.tmp i := ha.agree hb (fun _ _ _ _ => Iff.rfl)
    have h2 : VRel θ (a.tmp i) (act.tmps.getD i undef) := this
    rw [he] at h2
    exact h2
  · rw [r.marks, ha.marks, hb.marks]
  · intro m hm; exact r.lt m (by rw [ha.marks, ← hb.marks]; exact hm)
  · intro g hg; exact r.gl g (by rw [ha.gl, ← hb.gl]; exact hg)
end
end Go.AM
end

section
namespace Go.AM
open Go
section
variable {P : Program} {θ : Env} {h h' : AHeap} {w w' : World} {v : Value}

/-- What an operation of a region leaves in its temporary, and the heap. -/
noncomputable def opVal (P : Program) (ih : Run) (ops : Array Oper) (o : Oper) (a : AAct) (h : AHeap) : Option (Value × AHeap) :=
  Bool.rec (some (undef, h)) (opRun P ih o a h) (wantedA ops a o)

theorem opAt_val {ih : Run} {ops : Array Oper} {o : Oper} {a : AAct} : opAt P ih ops o a h = (opVal P ih ops o a h).map fun r => (a.put o.dst r.1, r.2) := by
  unfold opAt opVal
  cases wantedA ops a o with
  | false => rfl
  | true =>
    cases opRun P ih o a h with
    | none => rfl
    | some r => rfl

/-- An operation reads this temporary: as an operand, or for its guard. -/
def Reads (ops : Array Oper) (o : Oper) (t : Tmp) : Prop := Operand.tmp t ∈ o.op.operands ∨ ∃ j want, o.guard = some (j, want) ∧ (ops[j]?).bind (·.dst) = some t

theorem opVal_congr {ih : Run} {ops : Array Oper} {o : Oper} {a b : AAct} (hgl : a.gl = b.gl) (hr : ∀ t, Reads ops o t → a.tmp t = b.tmp t) : opVal P ih ops o a h = opVal P ih ops o b h := by
  have hs : SameOn a b o.op := by
    intro x hx
    cases x with
    | tmp t => rw [AAct.ev_tmp, AAct.ev_tmp, hr t (.inl hx)]
    | const v => rw [AAct.ev_const, AAct.ev_const]
    | global g => rw [AAct.ev_global, AAct.ev_global, hgl]
    | func f => rfl
  have hw : wantedA ops a o = wantedA ops b o := by
    unfold wantedA
    cases hg : o.guard with
    | none => rfl
    | some q =>
      obtain ⟨j, want⟩ := q
      simp only
      cases hd : (ops[j]?).bind (·.dst) with
      | none => rfl
      | some t => simp only [hr t (.inr ⟨j, want, hg, hd⟩)]
  unfold opVal
  rw [hw, opRun_congr hs]

theorem opVal_pure {ih : Run} {ops : Array Oper} {o : Oper} {a : AAct} (hp : pureOp o.op = true) (e : opVal P ih ops o a h = some (v, h')) : h' = h ∧ ∀ h₂, opVal P ih ops o a h₂ = some (v, h₂) := by
  unfold opVal at e ⊢
  cases hw : wantedA ops a o with
  | false =>
    rw [hw] at e
    have e : some (undef, h) = some (v, h') := e
    simp only [Option.some.injEq, Prod.mk.injEq] at e
    obtain ⟨rfl, rfl⟩ := e
    exact ⟨rfl, fun _ => rfl⟩
  | true =>
    rw [hw] at e
    exact opRun_pure hp e

theorem opVal_ok (hN : NamesOk P) {n : Nat} {ih : Run} (hih : RunOk P n ih) {ops : Array Oper} {i : Nat} {o : Oper} (hi : ops[i]? = some o) {a : AAct} {act : Act} {rnd : Option Nat} (r : Rep P θ h w) (ha : ActRel θ a act) (e : opVal P ih ops o a h = some (v, h')) (m : Nat) (K : Act → World → Prop) (Q : Exit → Act → World → Prop)
    (hK : ∀ θ' w' act', Rep P θ' h' w' → Goes θ h w θ' h' w' → ActRel θ' (a.put o.dst v) act' → K act' w') : wpOpIn (FE θ rnd) m P ops Q i K act w := by
  unfold wpOpIn
  rw [hi]
  simp only
  rw [wanted_eq ha]
  unfold opVal at e
  cases hw : wantedA ops a o with
  | false =>
    rw [hw] at e
    have e : some (undef, h) = some (v, h') := e
    simp only [Option.some.injEq, Prod.mk.injEq] at e
    obtain ⟨rfl, rfl⟩ := e
    simp only [Bool.false_eq_true, if_false]
    exact ⟨fun f _ => FE_fn θ rnd f, hK θ w _ r (.refl _ _ _) (ha.put _ .undef)⟩
  | true =>
    rw [hw] at e
    simp only [if_true]
    exact opRun_ok hN hih r ha e m _ _ fun θ' w' v' r' g' hv' => hK θ' w' _ r' g' ((ha.mono g'.le).put _ hv')
end
end Go.AM
end

section
namespace Go.AM
open Go
section
variable {P : Program} {ih : Run} {ops : Array Oper}

/-- A region whose order is open, run in index order: what the run must have, and what the region must be, for every order to come to the same. -/
structure Draw (P : Program) (ih : Run) (ops : Array Oper) (a0 : AAct) (A : Nat → AAct) (H : Nat → AHeap) (v : Nat → Value) (loud : Nat → Bool) (M : Nat → Nat → Bool) : Prop where
  one : OneWriter ops
  anc : AncOk (fun j => (ops[j]?).elim [] edgesOf) M ops.size
  canon : ∀ i o, ops[i]? = some o → opVal P ih ops o (A i) (H i) = some (v i, H (i+1))
  same : ∀ i, i ≤ ops.size → Same a0 ops v (· < i) (A i)
  quiet : ∀ i, i < ops.size → loud i = false → H (i+1) = H i
  line : ∀ i j, i < j → j < ops.size → loud i = true → loud j = true → M j i = true
  reads : ∀ r o i p (t : Tmp), ops[r]? = some o → ops[i]? = some p → p.dst = some t → Reads ops o t → i = r ∨ M r i = true ∨ M i r = true
  stay : ∀ r o, ops[r]? = some o → loud r = false → ∀ j, j ≤ ops.size → (∀ l, l < ops.size → loud l = true → M r l = true → l < j) → (∀ l, l < ops.size → loud l = true → M l r = true → j ≤ l) → opVal P ih ops o (A r) (H j) = some (v r, H j)

theorem quiet_range {H : Nat → AHeap} {loud : Nat → Bool} {n : Nat} (hq : ∀ i, i < n → loud i = false → H (i+1) = H i) {j : Nat} : ∀ d, j + d ≤ n → (∀ l, j ≤ l → l < j + d → loud l = false) → H (j + d) = H j
  | 0, _, _ => rfl
  | d + 1, hd, hl => by
    have := quiet_range hq d (by omega) (fun l h1 h2 => hl l h1 (by omega))
    rw [← this]
    exact hq (j + d) (by omega) (hl (j + d) (by omega) (by omega))

/-- How many of the first n are not listed. -/
def unl (S : Nat → Bool) : Nat → Nat
  | 0 => 0
  | n + 1 => unl S n + (if S n then 0 else 1)
theorem unl_other {S T : Nat → Bool} : ∀ n, (∀ i, i < n → S i = T i) → unl S n = unl T n
  | 0, _ => rfl
  | n + 1, h => by simp only [unl, unl_other n (fun i hi => h i (by omega)), h n (by omega)]
theorem unl_step {S T : Nat → Bool} {r : Nat} (hr : S r = false) (hT : T r = true) (h : ∀ i, i ≠ r → T i = S i) : ∀ n, r < n → unl T n + 1 = unl S n
  | 0, hn => by omega
  | n + 1, hn => by
    simp only [unl]
    by_cases hrn : r = n
    · subst hrn
      rw [unl_other r (fun i hi => (h i (by omega)).symm), hr, hT]
      simp
    · rw [h n (Ne.symm hrn), ← unl_step hr hT h n (by omega)]
      omega
theorem unl_zero {S : Nat → Bool} : ∀ n, unl S n = 0 → ∀ i, i < n → S i = true
  | 0, _, i, hi => by omega
  | n + 1, h, i, hi => by
    simp only [unl] at h
    by_cases hn : i = n
    · subst hn
      cases hs : S i with
      | true => rfl
      | false => rw [hs] at h; simp at h
    · exact unl_zero n (by omega) i (by omega)
end
end Go.AM
end
