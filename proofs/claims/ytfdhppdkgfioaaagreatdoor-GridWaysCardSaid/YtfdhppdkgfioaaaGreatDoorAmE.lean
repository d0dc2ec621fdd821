import Derived.Test.YtfdhppdkgfioaaaGreatDoorAmD
section
namespace Go.AM
open Go Go.RowKit
section
variable {P : Program}

/-! The same machine, laid out so that the kernel copies little: each choice has closed ways. -/

noncomputable def lenOp (P : Program) (h : AHeap) (t : TypeId) (x : Value) : AVH :=
  abuiltin P h .len [t] [x]
noncomputable def callGo (ih : Run) (args : List Value) (h : AHeap) (v : Value) : AVH :=
  match v with
  | .func (.func g) first captured => match ih (.call g (first.toList ++ args ++ captured.toList)) h with
    | some (.ret v, h') => some (v, h')
    | _ => none
  | .func (.yield l) _ _ => round ih l args h
  | _ => none
noncomputable def callOp (c : Call) (P : Program) (ih : Run) (a : AAct) (h : AHeap) : AVH :=
  Option.rec none (fun args => Callee.rec (motive := fun _ => List Value → Array TypeId → Program → Run → AAct → AHeap → AVH)
    (fun f args _ _ ih a h => Option.rec none (callGo ih args h) (a.ev f)) (fun _ _ _ _ _ _ _ _ => none) (fun b args ts P _ _ h => abuiltin P h b ts.toList args) c.callee args c.argTypes P ih a h) (evs a c.args.toList)
noncomputable def opF (o : Op) : Program → Run → AAct → AHeap → AVH :=
  Op.rec (motive := fun _ => Program → Run → AAct → AHeap → AVH)
    (fun x _ _ a h => keep h (a.ev x))
    (fun x _ _ a h => keep h (a.ev x))
    (fun c x y _ _ a h => keep h (aPick a c x y))
    (fun elem P _ _ h => aAlloc P h elem)
    (fun elem x _ _ a h => on1 (a.ev x) (aBox h elem))
    (fun t parts P _ a h => onL (evs a (parts.toList.map (·.2))) fun vs => keep h (aBuild P t (parts.toList.map (·.1)) vs))
    (fun t len parts P _ a h => onL (evs a (parts.toList.map (·.2))) fun vs => aBuildSlice P h t len (parts.toList.map (·.1)) vs)
    (fun t x kx vx P _ a h => on3 (a.ev x) (a.ev kx) (a.ev vx) (aMapUpdate P h t))
    (fun t x P _ a h => on1 (a.ev x) fun v => keep h (aLoad P h t v))
    (fun t x y P _ a h => on2 (a.ev x) (a.ev y) (aStore P h t))
    (fun _ _ _ _ _ => none)
    (fun _ _ _ _ _ => none)
    (fun x _ _ a h => on1 (a.ev x) fun v => keep h (aNilCheck v))
    (fun op t x y _ P _ a h => on2 (a.ev x) (a.ev y) fun v w => keep h (aBin P op t x y v w))
    (fun op _ x P _ a h => on1 (a.ev x) fun v => keep h (aUn P op v))
    (fun src dst x P _ a h => on1 (a.ev x) fun v => keep h (aConv P src dst v))
    (fun _ _ _ _ _ _ => none)
    (fun _ _ _ _ _ _ => none)
    (fun fn first captured _ _ a h => keep h (aMakeFunc a fn first.toList captured.toList))
    (fun t r P _ a h => aMakeMap P a h t r)
    (fun _ _ _ _ _ _ => none)
    (fun t x y P _ a h => on2 (a.ev x) (a.ev y) (aMakeSlice P h t))
    (fun t x lo hi mx P _ a h => aSliceOp P a h t x lo hi mx)
    (fun s x f P _ a h => on1 (a.ev x) fun v => keep h (aFieldAddr P s v f))
    (fun t x f P _ a h => on1 (a.ev x) fun v => keep h (aField P t v f))
    (fun t x ix P _ a h => on2 (a.ev x) (a.ev ix) fun v w => keep h (aIndexAddr P t v w))
    (fun t x ix P _ a h => on2 (a.ev x) (a.ev ix) fun v w => keep h (aIndex P t v w))
    (fun t x ix ok P _ a h => on2 (a.ev x) (a.ev ix) fun v w => keep h (aLookup P h t v w ok))
    (fun t x kx vx P _ a h => on3 (a.ev x) (a.ev kx) (a.ev vx) (aMapUpdate P h t))
    (fun _ _ _ _ _ _ _ => none)
    (fun _ _ _ _ _ _ _ _ => none)
    (fun t x P _ a h => on1 (a.ev x) (aRange P h t))
    (fun x s _ _ a h => Bool.rec none (on1 (a.ev x) (aNext h)) s)
    (fun _ _ _ _ _ => none)
    (fun _ _ _ _ _ _ _ _ => none)
    (fun x i _ _ a h => on1 (a.ev x) fun v => keep h (aExtract v i))
    callOp
    (fun _ _ _ _ _ => none)
    (fun _ _ _ _ _ => none)
    (fun _ _ _ _ _ => none)
    (fun _ _ _ _ _ _ => none)
    (fun _ _ _ _ _ _ _ => none)
    (fun _ _ _ _ _ _ => none) o
theorem opF_eq (P : Program) (ih : Run) (o : Oper) (a : AAct) (h : AHeap) : opF o.op P ih a h = opRun P ih o a h := by
  unfold opRun
  cases o.op with
  | next x s => cases s <;> rfl
  | call c =>
    show callOp c P ih a h = _
    unfold callOp
    cases he : evs a c.args.toList with
    | none => simp only [he]
    | some args =>
      simp only [he]
      cases hc : c.callee with
      | value f =>
        cases hf : a.ev f with
        | none => simp only [hf]
        | some v =>
          simp only [hf]
          cases v <;> first | rfl | skip
          rename_i fn u w
          cases fn <;> rfl
      | builtin b => rfl
      | invoke _ _ => rfl
  | _ => rfl

noncomputable def wantF (ops : Array Oper) (a : AAct) (g : Option (Nat × Bool)) : Bool :=
  Option.rec true (fun g => match (ops[g.1]?).bind (·.dst) with
    | none => false
    | some t => match a.tmp t with
      | .bool b => b == g.2
      | _ => false) g
theorem wantF_eq (ops : Array Oper) (a : AAct) (o : Oper) : wantF ops a o.guard = wantedA ops a o := by
  unfold wantedA
  cases o.guard with
  | none => rfl
  | some g => rfl
noncomputable def valF (P : Program) (ih : Run) (ops : Array Oper) (o : Oper) (a : AAct) (h : AHeap) : AVH :=
  Bool.rec (some (undef, h)) (opF o.op P ih a h) (wantF ops a o.guard)
theorem valF_eq (P : Program) (ih : Run) (ops : Array Oper) (o : Oper) (a : AAct) (h : AHeap) : valF P ih ops o a h = opVal P ih ops o a h := by
  unfold valF opVal
  rw [opF_eq, wantF_eq]
noncomputable def opsF (P : Program) (ih : Run) (ops : Array Oper) (l : List Oper) : AAct → AHeap → Option (AAct × AHeap) :=
  List.rec (motive := fun _ => AAct → AHeap → Option (AAct × AHeap)) (fun a h => some (a, h))
    (fun o _ rest a h => Option.rec none (fun r => rest (a.put o.dst r.1) r.2) (valF P ih ops o a h)) l
theorem opsF_eq (P : Program) (ih : Run) (ops : Array Oper) : ∀ (l : List Oper) (a : AAct) (h : AHeap), opsF P ih ops l a h = opsRun P ih ops l a h := by
  intro l
  induction l with
  | nil => intro a h; rfl
  | cons o l ihl =>
    intro a h
    show (Option.rec none (fun r => opsF P ih ops l (a.put o.dst r.1) r.2) (valF P ih ops o a h) : Option (AAct × AHeap)) = Option.rec none (fun r => opsRun P ih ops l r.1 r.2) (opAt P ih ops o a h)
    rw [opAt_val, ← valF_eq]
    cases valF P ih ops o a h with
    | none => rfl
    | some r => exact ihl _ _
noncomputable def traceF (P : Program) (ih : Run) (ops : Array Oper) (l : List Oper) : AAct → AHeap → Option (List (AAct × AHeap × Value) × AAct × AHeap) :=
  List.rec (motive := fun _ => AAct → AHeap → Option (List (AAct × AHeap × Value) × AAct × AHeap)) (fun a h => some ([], a, h))
    (fun o _ rest a h => Option.rec none (fun r => Option.rec none (fun q => some ((a, h, r.1) :: q.1, q.2.1, q.2.2)) (rest (a.put o.dst r.1) r.2)) (valF P ih ops o a h)) l
theorem traceF_eq (P : Program) (ih : Run) (ops : Array Oper) : ∀ (l : List Oper) (a : AAct) (h : AHeap), traceF P ih ops l a h = traceR P ih ops l a h := by
  intro l
  induction l with
  | nil => intro a h; rfl
  | cons o l ihl =>
    intro a h
    show (Option.rec none (fun r => Option.rec none (fun q => some ((a, h, r.1) :: q.1, q.2.1, q.2.2)) (traceF P ih ops l (a.put o.dst r.1) r.2)) (valF P ih ops o a h) : Option (List (AAct × AHeap × Value) × AAct × AHeap)) = _
    simp only [traceR]
    rw [← valF_eq]
    cases valF P ih ops o a h with
    | none => rfl
    | some r =>
      obtain ⟨u, h'⟩ := r
      simp only
      rw [ihl]
      cases traceR P ih ops l (a.put o.dst u) h' with
      | none => rfl
      | some q => rfl
noncomputable def againF (P : Program) (ih : Run) (ops : Array Oper) (tr : List (AAct × AHeap × Value)) (hz : AHeap) (x : Nat × Nat) : Bool :=
  match ops[x.1]?, tr[x.1]? with
  | some o, some (a, _, v) => Option.rec false (fun r => eqV 100 r.1 v) (valF P ih ops o a (heapAt tr hz x.2))
  | _, _ => false
theorem againF_eq (P : Program) (ih : Run) (ops : Array Oper) (tr : List (AAct × AHeap × Value)) (hz : AHeap) (x : Nat × Nat) : againF P ih ops tr hz x = againB P ih ops tr hz x := by
  unfold againF againB
  split
  · rename_i o a h v h1 h2
    rw [h1, h2]
    simp only
    rw [← valF_eq]
    cases valF P ih ops o a (heapAt tr hz x.2) with
    | none => rfl
    | some r => rfl
  · rename_i h1
    split
    · rename_i o a h v e1 e2
      exact (h1 o a h v e1 e2).elim
    · rfl
noncomputable def regN (P : Program) (ih : Run) (ops : Array Oper) (a : AAct) (h : AHeap) : Option (AOut × AHeap) :=
  Option.rec none (fun r => some (.exit .normal r.1, r.2)) (opsF P ih ops ops.toList a h)
noncomputable def valXF (P : Program) (ih : Run) (ops : Array Oper) (o : Oper) (a : AAct) (h : AHeap) : AVH :=
  Bool.rec (some (undef, h)) (Option.rec (opX P o.op a h) (fun r => some r) (opF o.op P ih a h)) (wantF ops a o.guard)
noncomputable def opsXF (P : Program) (ih : Run) (ops : Array Oper) (l : List Oper) : AAct → AHeap → Option (AAct × AHeap) :=
  List.rec (motive := fun _ => AAct → AHeap → Option (AAct × AHeap)) (fun a h => some (a, h))
    (fun o _ rest a h => Option.rec none (fun r => rest (a.put o.dst r.1) r.2) (valXF P ih ops o a h)) l
theorem opsXF_eq (P : Program) (ih : Run) (ops : Array Oper) (l : List Oper) (a : AAct) (h : AHeap) : opsXF P ih ops l a h = opsX P ih ops l a h := by
  have hv : valXF P ih ops = valX P ih ops := by
    funext o a h
    unfold valXF valX opRunX
    rw [opF_eq, wantF_eq]
  unfold opsXF opsX
  rw [hv]
noncomputable def regNXF (P : Program) (ih : Run) (ops : Array Oper) (a : AAct) (h : AHeap) : Option (AOut × AHeap) :=
  Option.rec none (fun r => some (.exit .normal r.1, r.2)) (opsXF P ih ops ops.toList a h)
theorem regNXF_eq (P : Program) (ih : Run) (ops : Array Oper) (a : AAct) (h : AHeap) : regNXF P ih ops a h = regNX P ih ops a h := by
  unfold regNXF regNX
  rw [opsXF_eq]
noncomputable def regX (P : Program) (ih : Run) (ops : Array Oper) (m : List Nat) (a : AAct) (h : AHeap) : Option (AOut × AHeap) :=
  Bool.rec none (Option.rec none (fun q => Bool.rec none (Bool.rec none (some (.exit .normal q.2.1, q.2.2)) (Bool.rec true ((turns ops).all fun j => newWr h (heapAt q.1 q.2.2 j)) (hasPend ops m))) ((needs ops m).all (againF P ih ops q.1 q.2.2))) (traceF P ih ops ops.toList a h)) (stat2B ops m)
theorem regX_eq (P : Program) (ih : Run) (ops : Array Oper) (m : List Nat) (a : AAct) (h : AHeap) : regX P ih ops m a h = regE P ih ops m a h := by
  unfold regX regE
  rw [traceF_eq]
  cases traceR P ih ops ops.toList a h with
  | none => rfl
  | some q =>
    obtain ⟨tr, az, hz⟩ := q
    simp only
    have : againF P ih ops tr hz = againB P ih ops tr hz := funext fun x => againF_eq P ih ops tr hz x
    rw [this]
noncomputable def regA (P : Program) (ih : Run) (ops : Array Oper) (a : AAct) (h : AHeap) : Option (AOut × AHeap) :=
  Bool.rec (regX P ih ops (masks ops) a h) (regN P ih ops a h) (statB ops (masks ops))

noncomputable def seqF (k : AAct → AHeap → Option (AOut × AHeap)) (r : Option (AOut × AHeap)) : Option (AOut × AHeap) :=
  match r with
  | some (.exit .normal a', h') => k a' h'
  | r => r
noncomputable def blockF (id : Nat) (r : Option (AOut × AHeap)) : Option (AOut × AHeap) :=
  match r with
  | some (.exit (.exit j) a', h') => bif Nat.beq j id then some (.exit .normal a', h') else some (.exit (.exit j) a', h')
  | r => r
noncomputable def condF (x y : Option (AOut × AHeap)) (v : Option Value) : Option (AOut × AHeap) :=
  match v with
  | some (.bool true) => x
  | some (.bool false) => y
  | _ => none
noncomputable def codeF (c : Code) : Option Nat → FuncId → AAct → Program → Run → AHeap → Option (AOut × AHeap) :=
  Code.rec (motive := fun _ => Option Nat → FuncId → AAct → Program → Run → AHeap → Option (AOut × AHeap))
    (fun _ _ a _ _ h => some (.exit .normal a, h))
    (fun _ ops u _ _ a P ih h => Bool.rec (Option.rec (regNXF P ih ops a h) (fun r => some r) (regN P ih ops a h)) (regA P ih ops a h) u)
    (fun x y _ _ rnd fn a _ ih h => seqF (fun a' h' => ih (.code rnd fn y a') h') (ih (.code rnd fn x a) h))
    (fun c x y _ _ rnd fn a _ ih h => condF (ih (.code rnd fn x a) h) (ih (.code rnd fn y a) h) (a.ev c))
    (fun id x _ rnd fn a _ ih h => blockF id (ih (.code rnd fn x a) h))
    (fun x _ rnd fn a _ ih h => seqF (fun a' h' => ih (.code rnd fn (.loop x) a') h') (ih (.code rnd fn x a) h))
    (fun f ps as b _ _ rnd fn a P ih h => step P ih (.code rnd fn (.rangeFunc f ps as b) a) h)
    (fun id _ _ a _ _ h => some (.exit (.exit id) a, h))
    (fun x _ rnd fn a _ ih h => ih (.code rnd fn x a) h)
    (fun _ _ _ a _ _ h => some (.exit .normal a, h))
    (fun _ _ _ _ _ _ _ => none)
    (fun _ _ a _ _ h => some (.exit .ret a, h))
    (fun _ _ _ _ _ _ _ => none) c
noncomputable def bodyF (f : FuncId) (args : List Value) (fn : Func) (c : Code) (P : Program) (ih : Run) (h : AHeap) : Option (AOut × AHeap) :=
  match ih (.code none f c { t := Tr.nil.setAll 0 args, n := args.length + (fn.ntmps - args.length), marks := [], gl := h.gl }) h with
  | some (.exit .normal a', h') | some (.exit .ret a', h') => leave P fn a' h'
  | _ => none
noncomputable def stepF (P : Program) (S : Sum) (ih : Run) : Run := fun t h =>
  Task.rec (motive := fun _ => Program → Sum → Run → AHeap → Option (AOut × AHeap)) (fun rnd fn c a P _ ih h => codeF c rnd fn a P ih h)
    (fun f args P S ih h => Option.rec (Option.rec none (fun fn => Option.rec none (fun c => bodyF f args fn c P ih h) fn.body) (P.funcs[f]?)) (fun r => some (.ret r.1, r.2)) (S f args h)) t P S ih h
theorem stepF_eq (P : Program) (S : Sum) (ih : Run) : stepF P S ih = stepS P S ih := by
  funext t h
  cases t with
  | call f args =>
    show (Option.rec (Option.rec none (fun fn => Option.rec none (fun c => bodyF f args fn c P ih h) fn.body) (P.funcs[f]?)) (fun r => some (.ret r.1, r.2)) (S f args h) : Option (AOut × AHeap)) = _
    simp only [stepS]
    cases S f args h with
    | some r => rfl
    | none =>
      simp only [step]
      cases P.funcs[f]? with
      | none => rfl
      | some fn =>
        simp only
        cases fn.body with
        | none => rfl
        | some c => rfl
  | code rnd fn c a =>
    show codeF c rnd fn a P ih h = _
    cases c with
    | region id ops u =>
      have hN : ∀ ops : Array Oper, regN P ih ops a h = (match opsRun P ih ops ops.toList a h with | some (a', h') => some (.exit .normal a', h') | none => none) := fun ops => by
        unfold regN
        rw [opsF_eq]
        cases opsRun P ih ops ops.toList a h <;> rfl
      cases u with
      | false =>
        show Option.rec (regNXF P ih ops a h) (fun r => some r) (regN P ih ops a h) = stepS P S ih (.code rnd fn (.region id ops false) a) h
        rw [regNXF_eq, hN]
        rfl
      | true =>
        show regA P ih ops a h = stepS P S ih (.code rnd fn (.region id ops true) a) h
        unfold regA
        rw [regX_eq]
        simp only [stepS, stepD]
        rw [hN]
        cases statB ops (masks ops) <;> rfl
    | _ => rfl
noncomputable def runF (P : Program) (S : Sum) (n : Nat) : Run :=
  Nat.rec (motive := fun _ => Run) (fun _ _ => none) (fun _ ih => stepF P S ih) n
theorem runF_eq (P : Program) (S : Sum) (n : Nat) : runF P S n = runS P S n := by
  unfold runF runS
  congr 1
  funext _ ih
  exact stepF_eq P S ih
noncomputable def outF (r : Option (AOut × AHeap)) : Option (Value × AHeap) :=
  match r with
  | some (.ret v, h') => some (v, h')
  | _ => none
noncomputable def callF (P : Program) (S : Sum) (n : Nat) (f : FuncId) (args : List Value) (h : AHeap) : Option (Value × AHeap) := outF (runF P S n (.call f args) h)
theorem callF_eq (P : Program) (S : Sum) (n : Nat) (f : FuncId) (args : List Value) (h : AHeap) : callF P S n f args h = callS P S n f args h := by
  unfold callF callS
  rw [runF_eq]
  rfl
end
end Go.AM
end
