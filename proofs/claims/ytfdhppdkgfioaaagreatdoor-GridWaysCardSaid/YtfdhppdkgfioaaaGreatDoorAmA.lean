import Derived.KernelRfl
import Derived.Laws.Rows
import Derived.Laws.Sem
import Derived.OrdersIn
import Derived.RangeFuncIn
import Derived.RangeFuncLeaves
section
/- An abstract machine over the model: values with abstract block numbers, a heap without addresses, capacities or draws. -/
namespace Go.AM
open Go

inductive D4 where
  | a
  | b
  | c
  | d
  deriving DecidableEq

/-- A map from numbers, as a tree. -/
inductive Tr (α : Type) where
  | nil
  | node (v : Option α) (a b c d : Tr α)

namespace Tr
variable {α : Type}
noncomputable def digit (m : Nat) : D4 :=
  Nat.rec .a (fun n _ => Nat.rec .b (fun n _ => Nat.rec .c (fun _ _ => .d) n) n) m
noncomputable def pathF (f : Nat) : Nat → List D4 :=
  Nat.rec (motive := fun _ => Nat → List D4) (fun _ => []) (fun _ ih k => Nat.rec (motive := fun _ => List D4) [] (fun m _ => digit (Nat.mod m (nat_lit 4)) :: ih (Nat.div m (nat_lit 4))) k) f
/-- The way to a number. -/
noncomputable def path (k : Nat) : List D4 := pathF (Nat.succ k) k
noncomputable def getP (p : List D4) : Tr α → Option α :=
  List.rec (motive := fun _ => Tr α → Option α) (fun t => Tr.rec (motive := fun _ => Option α) none (fun v _ _ _ _ _ _ _ _ => v) t)
    (fun x _ ih t => Tr.rec (motive := fun _ => Option α) none (fun _ a b c d _ _ _ _ => D4.rec (ih a) (ih b) (ih c) (ih d) x) t) p
noncomputable def putP (y : Option α) (p : List D4) : Tr α → Tr α :=
  List.rec (motive := fun _ => Tr α → Tr α) (fun t => Tr.rec (motive := fun _ => Tr α) (.node y .nil .nil .nil .nil) (fun _ a b c d _ _ _ _ => .node y a b c d) t)
    (fun x _ ih t => Tr.rec (motive := fun _ => Tr α)
      (D4.rec (.node none (ih .nil) .nil .nil .nil) (.node none .nil (ih .nil) .nil .nil) (.node none .nil .nil (ih .nil) .nil) (.node none .nil .nil .nil (ih .nil)) x)
      (fun v a b c d _ _ _ _ => D4.rec (.node v (ih a) b c d) (.node v a (ih b) c d) (.node v a b (ih c) d) (.node v a b c (ih d)) x) t) p
noncomputable def get (t : Tr α) (k : Nat) : Option α :=
  Nat.rec (motive := fun _ => Option α) (getP [] t) (fun m _ => getP (path (Nat.succ m)) t) k
noncomputable def put (t : Tr α) (k : Nat) (x : Option α) : Tr α :=
  Nat.rec (motive := fun _ => Tr α) (putP x [] t) (fun m _ => putP x (path (Nat.succ m)) t) k
noncomputable def set (t : Tr α) (k : Nat) (x : α) : Tr α := t.put k (some x)
/-- The elements of a list from a number on. -/
noncomputable def setAll (t : Tr α) (k : Nat) (xs : List α) : Tr α :=
  List.rec (motive := fun _ => Tr α → Nat → Tr α) (fun t _ => t) (fun x _ ih t k => ih (t.set k x) (Nat.succ k)) xs t k
theorem setAll_nil (t : Tr α) (k : Nat) : t.setAll k [] = t := rfl
theorem setAll_cons (t : Tr α) (k : Nat) (x : α) (xs : List α) : t.setAll k (x :: xs) = (t.set k x).setAll (k + 1) xs := rfl

theorem get_path (t : Tr α) (k : Nat) : t.get k = getP (path k) t := by cases k <;> rfl
theorem put_path (t : Tr α) (k : Nat) (x : Option α) : t.put k x = putP x (path k) t := by cases k <;> rfl
theorem getP_nil (p : List D4) : getP p (nil : Tr α) = none := by cases p <;> rfl
theorem get_nil (k : Nat) : (nil : Tr α).get k = none := by rw [get_path, getP_nil]
theorem getP_putP (y : Option α) : ∀ (p q : List D4) (t : Tr α), getP q (putP y p t) = if q = p then y else getP q t := by
  intro p
  induction p with
  | nil =>
    intro q t
    cases q with
    | nil => rw [if_pos rfl]; cases t <;> rfl
    | cons x q =>
      rw [if_neg (by simp)]
      cases t with
      | nil => rw [getP_nil]; show (D4.rec (getP q nil) (getP q nil) (getP q nil) (getP q nil) x : Option α) = none; cases x <;> exact getP_nil q
      | node v a b c d => rfl
  | cons z p ih =>
    intro q t
    cases q with
    | nil =>
      rw [if_neg (by simp)]
      cases t <;> cases z <;> rfl
    | cons x q =>
      have hx : ∀ (a b c d : Tr α) (v : Option α), getP (x :: q) (node v a b c d) = D4.rec (motive := fun _ => Option α) (getP q a) (getP q b) (getP q c) (getP q d) x := fun _ _ _ _ _ => rfl
      have key : ∀ (a b c d : Tr α) (v : Option α), getP (x :: q) (D4.rec (motive := fun _ => Tr α) (node v (putP y p a) b c d) (node v a (putP y p b) c d) (node v a b (putP y p c) d) (node v a b c (putP y p d)) z) = if x :: q = z :: p then y else getP (x :: q) (node v a b c d) := by
        intro a b c d v
        rw [hx]
        cases z <;> simp only [hx] <;> cases x <;> simp [ih]
      cases t with
      | nil =>
        refine (key nil nil nil nil none).trans ?_
        congr 1
        rw [hx, getP_nil]
        cases x <;> simp [getP_nil]
      | node v a b c d => exact key a b c d v

noncomputable def num : D4 → Nat
  | .a => 0
  | .b => 1
  | .c => 2
  | .d => 3
noncomputable def back : List D4 → Nat
  | [] => 0
  | x :: p => 4 * back p + num x + 1
theorem num_digit : ∀ m, m < 4 → num (digit m) = m
  | 0, _ => rfl
  | 1, _ => rfl
  | 2, _ => rfl
  | 3, _ => rfl
  | m + 4, h => by omega
theorem back_pathF : ∀ (f k : Nat), k < f → back (pathF f k) = k := by
  intro f
  induction f with
  | zero => intro k h; omega
  | succ f ih =>
    intro k h
    cases k with
    | zero => rfl
    | succ m =>
      show 4 * back (pathF f (m / 4)) + num (digit (m % 4)) + 1 = m + 1
      rw [ih (m / 4) (by omega), num_digit _ (Nat.mod_lt _ (by decide))]
      omega
theorem path_inj {j k : Nat} (h : path j = path k) : j = k := by
  have a := back_pathF (j + 1) j (Nat.lt_succ_self _)
  have b := back_pathF (k + 1) k (Nat.lt_succ_self _)
  have h : pathF (j + 1) j = pathF (k + 1) k := h
  rw [h] at a
  omega

theorem get_put (t : Tr α) (k j : Nat) (x : Option α) : (t.put k x).get j = if j = k then x else t.get j := by
  rw [get_path, put_path, getP_putP, get_path]
  by_cases h : j = k
  · subst h; simp
  · rw [if_neg h, if_neg fun e => h (path_inj e)]
theorem get_set (t : Tr α) (k j : Nat) (x : α) : (t.set k x).get j = if j = k then some x else t.get j := get_put t k j (some x)
theorem get_setAll (xs : List α) : ∀ (t : Tr α) (k j : Nat), (t.setAll k xs).get j = if k ≤ j ∧ j < k + xs.length then xs[j - k]? else t.get j := by
  induction xs with
  | nil => intro t k j; rw [setAll_nil, if_neg (by simp)]
  | cons x xs ih =>
    intro t k j
    rw [setAll_cons, ih, get_set]
    by_cases h : j = k
    · subst h
      rw [if_neg (by omega), if_pos rfl, if_pos (by simp)]; simp
    · by_cases h2 : k ≤ j ∧ j < k + (x :: xs).length
      · rw [if_pos h2, if_pos (by simp at h2; omega)]
        obtain ⟨d, rfl⟩ : ∃ d, j = k + 1 + d := ⟨j - k - 1, by omega⟩
        have e1 : k + 1 + d - (k + 1) = d := by omega
        have e2 : k + 1 + d - k = d + 1 := by omega
        rw [e1, e2]; simp
      · rw [if_neg (by simp at h2; omega), if_neg h, if_neg h2]
end Tr
end Go.AM
end

section
namespace Go.AM
open Go

/-- Capacity that is not known: that of a slice whose block came of an append. -/
noncomputable def OPEN : Nat := 18446744073709551616

noncomputable def scalar : Value → Bool
  | .bool _ | .int .. | .string _ => true
  | _ => false
/-- Values without addresses. -/
noncomputable def flat : Value → Bool
  | .bool _ | .int .. | .string _ | .pointer none | .slice none _ _ | .map none | .nilFunc | .nilIface => true
  | .func (.func _) f c => f.isEmpty && c.isEmpty
  | .agg cs => cs.toList.all scalar
  | .tuple cs => cs.toList.all scalar
  | _ => false

/-- A loop over a function, as its record has it. -/
structure ALoop where
  busy : Bool
  done : Bool
  pending : Option Code
  fn : FuncId
  t : Tr Value
  n : Nat
  params : Array Tmp
  assign : Code
  body : Code
  defers : Nat

structure ACells where
  n : Nat
  z : List Value
  t : Tr Value
  elem : TypeId
  opn : Bool
  ro : Bool
  base : Bool := true

inductive AObj where
  | cells (c : ACells)
  | map (es : List MapEntry) (clock : Nat)
  | strIter (s : ByteArray) (pos : Nat)
  | loop (l : ALoop)
  | deferred

structure AHeap where
  t : Tr AObj
  next : Nat
  gl : Nat

namespace AHeap
noncomputable def get (h : AHeap) (i : Nat) : Option AObj := h.t.get i
noncomputable def set (h : AHeap) (i : Nat) (o : AObj) : AHeap := ⟨h.t.set i o, h.next, h.gl⟩
noncomputable def del (h : AHeap) (i : Nat) : AHeap := ⟨h.t.put i none, h.next, h.gl⟩
noncomputable def new (h : AHeap) (o : AObj) : AHeap := ⟨h.t.set h.next o, h.next + 1, h.gl⟩
end AHeap

noncomputable def ACells.at (c : ACells) (k : Nat) : Option Value :=
  bif Nat.blt k c.n then
    match c.t.get k with
    | some v => some v
    | none => c.z[k % c.z.length]?
  else none
/-- n cells from k on. -/
noncomputable def ACells.row (c : ACells) : Nat → Nat → Option (List Value)
  | _, 0 => some []
  | k, n + 1 => match c.at k with
    | none => none
    | some v => (c.row (k + 1) n).map (v :: ·)
/-- What a cell may hold. -/
noncomputable def cellOk : Value → Bool
  | .agg _ | .tuple _ => false
  | _ => true
noncomputable def ACells.put (c : ACells) (k : Nat) (vs : List Value) : Option ACells :=
  bif !c.ro && Nat.ble (k + vs.length) c.n && vs.all cellOk then some { c with t := c.t.setAll k vs } else none

structure AAct where
  t : Tr Value
  n : Nat
  marks : List Nat
  gl : Nat

inductive AExit where
  | normal
  | exit (id : Nat)
  | ret

inductive AOut where
  | exit (e : AExit) (a : AAct)
  | ret (v : Value)

inductive Task where
  | code (rnd : Option Nat) (fn : FuncId) (c : Code) (a : AAct)
  | call (f : FuncId) (args : List Value)

noncomputable def AAct.tmp (a : AAct) (i : Nat) : Value := Option.rec undef (fun v => v) (a.t.get i)
noncomputable def AAct.ev (a : AAct) (x : Operand) : Option Value :=
  Operand.rec (fun t => some (a.tmp t)) (fun v => Bool.rec none (some v) (flat v)) (fun g => Bool.rec none (some (.pointer (some ⟨g, 0, none⟩))) (Nat.blt g a.gl)) (fun f => some (.func (.func f) #[] #[])) x
noncomputable def AAct.put (a : AAct) (dst : Option Tmp) (v : Value) : AAct :=
  AAct.rec (fun t n m g => Option.rec (AAct.mk t n m g) (fun d => Bool.rec (AAct.mk t n m g) (AAct.mk (t.set d v) n m g) (Nat.blt d n)) dst) a
theorem AAct.ev_tmp (a : AAct) (t : Tmp) : a.ev (.tmp t) = some (a.tmp t) := rfl
theorem AAct.ev_const (a : AAct) (v : Value) : a.ev (.const v) = if flat v then some v else none := by
  show (Bool.rec none (some v) (flat v) : Option Value) = _
  cases flat v <;> rfl
theorem AAct.ev_global (a : AAct) (g : Nat) : a.ev (.global g) = if g < a.gl then some (.pointer (some ⟨g, 0, none⟩)) else none := by
  show (Bool.rec none (some (.pointer (some ⟨g, 0, none⟩))) (Nat.blt g a.gl) : Option Value) = _
  by_cases h : g < a.gl
  · have : Nat.blt g a.gl = true := Nat.ble_eq_true_of_le h
    rw [this, if_pos h]
  · have : Nat.blt g a.gl = false := by
      cases e : Nat.blt g a.gl
      · rfl
      · exact absurd (Nat.le_of_ble_eq_true e) h
    rw [this, if_neg h]
theorem AAct.ev_func (a : AAct) (f : FuncId) : a.ev (.func f) = some (.func (.func f) #[] #[]) := rfl
theorem AAct.put_none (a : AAct) (v : Value) : a.put none v = a := rfl
theorem AAct.put_some (a : AAct) (d : Tmp) (v : Value) : a.put (some d) v = if d < a.n then { a with t := a.t.set d v } else a := by
  show (Bool.rec a (AAct.mk (a.t.set d v) a.n a.marks a.gl) (Nat.blt d a.n) : AAct) = _
  by_cases h : d < a.n
  · have : Nat.blt d a.n = true := Nat.ble_eq_true_of_le h
    rw [this, if_pos h]
  · have : Nat.blt d a.n = false := by
      cases e : Nat.blt d a.n
      · rfl
      · exact absurd (Nat.le_of_ble_eq_true e) h
    rw [this, if_neg h]

noncomputable def quick {α : Type} (P : Program) : Nat → Sem α → Option α
  | 0, _ => none
  | _ + 1, .pure a => some a
  | n + 1, .program k => quick P n (k P)
  | n + 1, .mark _ k => quick P n k
  | _ + 1, _ => none

/-! Arithmetic of int, so that the kernel reckons it fast. -/
noncomputable def inI64 : Int → Bool
  | .ofNat m => Nat.blt m 9223372036854775808
  | .negSucc m => Nat.blt m 9223372036854775808
noncomputable def wrapF (n : Int) : Int := bif inI64 n then n else IntKind.i64.wrap n
noncomputable def ltI : Int → Int → Bool
  | .ofNat a, .ofNat b => Nat.blt a b
  | .ofNat _, .negSucc _ => false
  | .negSucc _, .ofNat _ => true
  | .negSucc a, .negSucc b => Nat.blt b a
noncomputable def eqI : Int → Int → Bool
  | .ofNat a, .ofNat b => Nat.beq a b
  | .ofNat _, .negSucc _ => false
  | .negSucc _, .ofNat _ => false
  | .negSucc a, .negSucc b => Nat.beq a b
/-- A number, reckoned, before it goes on. -/
noncomputable def forceN {β : Type} (n : Nat) (k : Nat → β) : β :=
  match n with
  | 0 => k 0
  | m + 1 => k (m + 1)
noncomputable def forceI {β : Type} (n : Int) (k : Int → β) : β :=
  match n with
  | .ofNat m => forceN m fun m => k (.ofNat m)
  | .negSucc m => forceN m fun m => k (.negSucc m)
noncomputable def asI64 : Value → Option Int
  | .int .i64 n => some n
  | _ => none
noncomputable def i64 (n : Int) : Option Value := forceI (wrapF n) fun n => some (.int .i64 n)
noncomputable def boolV (b : Bool) : Option Value :=
  match b with
  | true => some (.bool true)
  | false => some (.bool false)
noncomputable def fastInt (op : BinOp) (a b : Int) : Option Value :=
  match op with
  | .add => i64 (a + b)
  | .sub => i64 (a - b)
  | .mul => i64 (a * b)
  | .eql => boolV (eqI a b)
  | .neq => boolV (!eqI a b)
  | .lss => boolV (ltI a b)
  | .leq => boolV (!ltI b a)
  | .gtr => boolV (ltI b a)
  | .geq => boolV (!ltI a b)
  | .quo => bif eqI b 0 then none else i64 (a.tdiv b)
  | .rem => bif eqI b 0 then none else forceI (a.tmod b) fun n => some (.int .i64 n)
  | _ => none

noncomputable def evs (a : AAct) : List Operand → Option (List Value)
  | [] => some []
  | x :: xs => match a.ev x with
    | none => none
    | some v => (evs a xs).map (v :: ·)

noncomputable def info (P : Program) (t : TypeId) : Option TypeInfo := P.info? t
noncomputable def asI : Value → Option Int
  | .int _ n => some n
  | _ => none

/-- The cells of a variable of a type, as a value. -/
noncomputable def oneOf : List Value → Option Value
  | [v] => some v
  | _ => none
noncomputable def shut (P : Program) (t : TypeId) (vs : List Value) : Option Value :=
  match P.underlying t with
  | some (.struct _) | some (.array _ _) => some (.agg vs.toArray)
  | some _ => oneOf vs
  | none => none

noncomputable def loadAt (P : Program) (t : TypeId) (h : AHeap) (b off : Nat) : Option Value :=
  match h.get b with
  | some (.cells c) => match info P t with
    | some i => (c.row off i.size).bind (shut P t)
    | none => none
  | _ => none

noncomputable def storeAt (P : Program) (t : TypeId) (h : AHeap) (b off : Nat) (v : Value) : Option AHeap :=
  match h.get b with
  | some (.cells c) => match info P t with
    | some i => bif Nat.beq v.cells.size i.size then (c.put off v.cells.toList).map fun c' => h.set b (.cells c') else none
    | none => none
  | _ => none

noncomputable def newCells (h : AHeap) (n : Nat) (z : List Value) (t : Tr Value) (elem : TypeId) (opn : Bool) (base : Bool := true) : AHeap :=
  h.new (.cells { n, z, t, elem, opn, ro := false, base })

/-- The struct types' places. -/
noncomputable def placesOf (P : Program) : List Field → Option (List (Nat × Nat))
  | [] => some []
  | f :: fs => match info P f.type with
    | none => none
    | some i => (placesOf P fs).map ((f.offset, i.size) :: ·)

noncomputable def lowOf (h m : Nat) : Option Int → Option (Nat × Nat × Nat)
  | none => some (0, h, m)
  | some v => bif decide (0 ≤ v) && decide (v ≤ (h : Int)) then some (v.toNat, h, m) else none
/-- The bounds of a slice expression: the length, the capacity, how much of it is sure. -/
noncomputable def sliceBounds (len cap : Nat) (known : Nat) (lo hi mx : Option Int) : Option (Nat × Nat × Nat) :=
  match (match mx with
    | none => some cap
    | some v => bif decide (0 ≤ v) && decide (v ≤ known) && Nat.blt v.toNat OPEN then some v.toNat else none) with
  | none => none
  | some m =>
    match (match hi with
      | none => (match mx with | none => some len | some _ => none)
      | some v => bif decide (0 ≤ v) && (match mx with | some _ => decide (v ≤ m) | none => decide (v ≤ known)) then some v.toNat else none) with
    | none => none
    | some h => lowOf h m lo

noncomputable def optI (a : AAct) : Option Operand → Option (Option Int)
  | none => some none
  | some x => match a.ev x with
    | some (.int _ n) => some (some n)
    | _ => none

noncomputable def sizeOfT (P : Program) (t : TypeId) : Option Nat :=
  match info P t with
  | some i => some i.size
  | none => none
/-- How many elements of a size a slice's block surely has from an offset on. -/
noncomputable def knownCap (P : Program) (h : AHeap) (b off cap size : Nat) : Option Nat :=
  bif Nat.beq cap OPEN then
    match h.get b with
    | some (.cells c) => match sizeOfT P c.elem with
      | some s => bif c.opn && !c.ro && Nat.beq s size && Nat.ble 1 size then some ((c.n - off) / size) else none
      | none => none
    | _ => none
  else some cap

noncomputable def asOpt : Value → Option (Option Nat)
  | .map r => some r
  | _ => none


abbrev AVH := Option (Value × AHeap)
noncomputable def keep (h : AHeap) : Option Value → AVH
  | some v => some (v, h)
  | none => none
noncomputable def newVal (v : Value) (h : AHeap) (o : AObj) : AVH := some (v, h.new o)
noncomputable def ptrTo (h : AHeap) : Value := .pointer (some ⟨h.next, 0, none⟩)

noncomputable def aPick (a : AAct) (c x y : Operand) : Option Value :=
  match a.ev c with
  | some (.bool true) => (a.ev y).bind fun _ => a.ev x
  | some (.bool false) => (a.ev x).bind fun _ => a.ev y
  | _ => none

/-- The zero value's cells, and the size: of a type whose zero value has no address. -/
noncomputable def zeroOf (P : Program) (t : TypeId) : Option (List Value × Nat × Nat) :=
  match info P t with
  | some i => match i.zero with
    | some z => bif z.cells.toList.all flat && Nat.beq z.cells.size i.size then some (z.cells.toList, i.size, i.bytes) else none
    | none => none
  | none => none
noncomputable def aAlloc (P : Program) (h : AHeap) (elem : TypeId) : AVH :=
  match zeroOf P elem with
  | some (z, n, _) => some (ptrTo h, newCells h n z .nil elem false)
  | none => none
noncomputable def aBox (h : AHeap) (elem : TypeId) (v : Value) : AVH := some (ptrTo h, newCells h v.cells.size [] (Tr.nil.setAll 0 v.cells.toList) elem false)

noncomputable def aBuild (P : Program) (t : TypeId) (ks : List Nat) (vs : List Value) : Option Value :=
  match zeroOf P t with
  | none => none
  | some (z, _, _) => match P.underlying t with
    | some (.struct fields) => match placesOf P fields.toList with
      | none => none
      | some pl => (Instr.fill (pl[·]?) z.toArray (ks.zip vs)).map .agg
    | some (.array _ elem) => match sizeOfT P elem with
      | none => none
      | some size => (Instr.fill (fun j => some (j * size, size)) z.toArray (ks.zip vs)).map .agg
    | _ => none

noncomputable def aBuildSlice (P : Program) (h : AHeap) (t : TypeId) (len : Nat) (ks : List Nat) (vs : List Value) : AVH :=
  match P.underlying t with
  | some (.slice elem) => match zeroOf P elem with
    | none => none
    | some (z, size, _) =>
      bif Nat.blt (2 ^ 24) (len * size) || !Nat.blt len OPEN then none else
      match Instr.fill (fun i => some (i * size, size)) ((Array.range (len * size)).map (z.toArray[· % z.toArray.size]!)) (ks.zip vs) with
      | none => none
      | some cells => some (.slice (some ⟨h.next, 0, none⟩) len len, newCells h (len * size) [] (Tr.nil.setAll 0 cells.toList) elem false)
  | _ => none

noncomputable def aLoad (P : Program) (h : AHeap) (t : TypeId) : Value → Option Value
  | .pointer (some ⟨b, off, none⟩) => loadAt P t h b off
  | _ => none
noncomputable def aStore (P : Program) (h : AHeap) (t : TypeId) (p v : Value) : AVH :=
  match p with
  | .pointer (some ⟨b, off, none⟩) => match storeAt P t h b off v with
    | some h' => some (undef, h')
    | none => none
  | _ => none
noncomputable def aNilCheck : Value → Option Value
  | .pointer (some p) => some (.pointer (some p))
  | .func (.func f) u c => some (.func (.func f) u c)
  | .func (.yield l) u c => some (.func (.yield l) u c)
  | _ => none

noncomputable def onlyFlat : Option Value → Option Value
  | some v => bif flat v then some v else none
  | none => none
noncomputable def slowBin (P : Program) (op : BinOp) (t : TypeId) (x y : Operand) (vx vy : Value) : Option Value :=
  bif flat vx && flat vy then onlyFlat (quick P 400 (do eqGuard op t x y vx vy; binOp op t vx vy))
  else match op, P.underlying t, vx, vy with
    | .eql, some (.slice _), .slice (some _) _ _, .slice none _ _ => some (.bool false)
    | .neq, some (.slice _), .slice (some _) _ _, .slice none _ _ => some (.bool true)
    | _, _, _, _ => none
noncomputable def aBin (P : Program) (op : BinOp) (t : TypeId) (x y : Operand) (vx vy : Value) : Option Value :=
  match asI64 vx, asI64 vy with
  | some m, some n => match fastInt op m n with
    | some v => some v
    | none => slowBin P op t x y vx vy
  | _, _ => slowBin P op t x y vx vy
noncomputable def aUn (P : Program) (op : UnOp) (v : Value) : Option Value := bif scalar v then onlyFlat (quick P 50 (Op.unary op v)) else none
noncomputable def aConv (P : Program) (src dst : TypeId) (v : Value) : Option Value := bif scalar v then onlyFlat (quick P 50 (convert src dst v)) else none

noncomputable def aMakeFunc (a : AAct) (fn : Fn) (first captured : List Operand) : Option Value :=
  match fn with
  | .func f => match evs a first, evs a captured with
    | some vs, some us => some (.func (.func f) vs.toArray us.toArray)
    | _, _ => none
  | _ => none
noncomputable def aMakeMap (P : Program) (a : AAct) (h : AHeap) (t : TypeId) : Option Operand → AVH
  | none => some (.map (some h.next), h.new (.map [] 0))
  | some x => match P.underlying t, a.ev x with
    | some (.map _ _), some (.int _ _) => some (.map (some h.next), h.new (.map [] 0))
    | _, _ => none
noncomputable def aMakeSlice (P : Program) (h : AHeap) (t : TypeId) (x y : Value) : AVH :=
  match P.underlying t, x, y with
  | some (.slice elem), .int _ len, .int _ cap => match zeroOf P elem with
    | some (z, size, bytes) =>
      let l := IntKind.i64.wrap len
      let c := IntKind.i64.wrap cap
      bif decide (0 ≤ l) && decide (l ≤ c) && decide ((bytes : Int) * c ≤ 2 ^ 48) && Nat.blt c.toNat OPEN then
        forceN c.toNat fun c => forceN l.toNat fun l => some (.slice (some ⟨h.next, 0, none⟩) l c, newCells h (c * size) z .nil elem false)
      else none
    | none => none
  | _, _, _ => none

noncomputable def sliceV (b off size i j k : Nat) : Value :=
  bif Nat.beq k OPEN then .slice (some ⟨b, off + i * size, none⟩) (j - i) OPEN
  else .slice (some ⟨b, bif Nat.beq k i then off else off + i * size, none⟩) (j - i) (k - i)
noncomputable def aSlice (P : Program) (h : AHeap) (t : TypeId) (x : Value) (l u m : Option Int) : Option Value :=
  match P.underlying t, x with
  | some .string, .string s => match m, sliceBounds s.size s.size s.size l u none with
    | none, some (i, j, _) => some (.string (s.extract i j))
    | _, _ => none
  | some (.slice elem), .slice none len cap => match sizeOfT P elem, sliceBounds len cap cap l u m with
    | some _, some (i, j, k) => bif Nat.ble len cap then some (.slice none (j - i) (k - i)) else none
    | _, _ => none
  | some (.slice elem), .slice (some ⟨b, off, none⟩) len cap => match sizeOfT P elem with
    | none => none
    | some size => match knownCap P h b off cap size with
      | none => none
      | some known => match sliceBounds len cap known l u m with
        | none => none
        | some (i, j, k) => bif Nat.ble len cap then some (sliceV b off size i j k) else none
  | some (.array n elem), .pointer (some ⟨b, off, none⟩) => match sizeOfT P elem with
    | none => none
    | some size => match sliceBounds n n n l u m with
      | none => none
      | some (i, j, k) => bif Nat.blt n OPEN then some (.slice (some ⟨b, bif Nat.beq k i then off else off + i * size, none⟩) (j - i) (k - i)) else none
  | _, _ => none

noncomputable def shutAt (P : Program) (t : TypeId) (size : Nat) (cs : Array Value) (off : Nat) : Option Value :=
  match P.underlying t with
  | some (.struct _) | some (.array _ _) => some (.agg (cs.extract off (off + size)))
  | some _ => cs[off]?
  | none => none
noncomputable def fieldAt (P : Program) (t : TypeId) (f : Nat) : Option (TypeId × Nat × Nat) :=
  match P.underlying t with
  | some (.struct fields) => match fields[f]? with
    | none => none
    | some fd => match sizeOfT P fd.type with
      | none => none
      | some size => some (fd.type, fd.offset, size)
  | _ => none
noncomputable def aFieldAddr (P : Program) (s : TypeId) (x : Value) (f : Nat) : Option Value :=
  match fieldAt P s f, x with
  | some (_, o, size), .pointer (some ⟨b, off, none⟩) => bif Nat.beq size 0 then none else forceN (off + o) fun off => some (.pointer (some ⟨b, off, none⟩))
  | _, _ => none
noncomputable def aField (P : Program) (t : TypeId) (x : Value) (f : Nat) : Option Value :=
  match fieldAt P t f, x with
  | some (u, o, size), .agg cs => shutAt P u size cs o
  | _, _ => none
noncomputable def inRange (i : Int) (n : Nat) : Option Nat :=
  match i with
  | .ofNat m => bif Nat.blt m n then some m else none
  | .negSucc _ => none
noncomputable def idx : Value → Option Int
  | .int _ n => some n
  | _ => none
noncomputable def elemAt (b off size : Nat) (i : Int) (n : Nat) : Option Value :=
  match inRange i n with
  | some m => forceN (off + m * size) fun off => some (.pointer (some ⟨b, off, none⟩))
  | none => none
noncomputable def aIndexAddr (P : Program) (t : TypeId) (x ix : Value) : Option Value :=
  match P.underlying t, x, idx ix with
  | some (.array len elem), .pointer (some ⟨b, off, none⟩), some i => match sizeOfT P elem with
    | none => none
    | some size => elemAt b off size i len
  | some (.slice elem), .slice (some ⟨b, off, none⟩) len _, some i => match sizeOfT P elem with
    | none => none
    | some size => elemAt b off size i len
  | _, _, _ => none
noncomputable def aIndex (P : Program) (t : TypeId) (x ix : Value) : Option Value :=
  match P.underlying t, x, idx ix with
  | some (.array len elem), .agg cs, some i => match sizeOfT P elem, inRange i len with
    | some size, some m => shutAt P elem size cs (m * size)
    | _, _ => none
  | some .string, .string s, some i => match inRange i s.size with
    | some m => match s[m]? with
      | some b => some (.int .u8 b.toNat)
      | none => none
    | none => none
  | _, _, _ => none

noncomputable def entriesOf (h : AHeap) : Value → Option (List MapEntry)
  | .map none => some []
  | .map (some m) => match h.get m with
    | some (.map es _) => some es
    | _ => none
  | _ => none
noncomputable def find (P : Program) (empty : Bool) (key : TypeId) (k : Value) (es : List MapEntry) : Option (Option (Nat × Value)) :=
  bif flat k then quick P 100000 (do Instr.checkKey empty 10000 key k; Instr.findKey key k es) else none
noncomputable def found (ok : Bool) (v : Value) (b : Bool) : Value := bif ok then .tuple #[v, .bool b] else v
noncomputable def zeroFlat (P : Program) (t : TypeId) : Option Value :=
  match info P t with
  | some i => match i.zero with
    | some z => bif flat z then some z else none
    | none => none
  | none => none
noncomputable def aLookup (P : Program) (h : AHeap) (t : TypeId) (x k : Value) (ok : Bool) : Option Value :=
  match P.underlying t, entriesOf h x with
  | some (.map key elem), some es => match zeroFlat P elem, find P es.isEmpty key k es with
    | some _, some (some (_, v)) => some (found ok v true)
    | some z, some none => some (found ok z false)
    | _, _ => none
  | _, _ => none
noncomputable def sameKey (es : List MapEntry) (i : Nat) (k : Value) : Bool :=
  match es[i]? with
  | some e => Instr.sameBits 10000 e.key k
  | none => false
noncomputable def aMapUpdate (P : Program) (h : AHeap) (t : TypeId) (x k v : Value) : AVH :=
  match P.underlying t, x with
  | some (.map key _), .map (some m) => match h.get m with
    | some (.map es clock) => match find P false key k es with
      | some (some (i, _)) => bif sameKey es i k then some (undef, h.set m (.map (es.modify i fun e => { e with key := k, val := v }) clock)) else none
      | some none => some (undef, h.set m (.map (es ++ [{ key := k, val := v, born := clock }]) (clock + 1)))
      | none => none
    | _ => none
  | _, _ => none
noncomputable def aRange (P : Program) (h : AHeap) (t : TypeId) (x : Value) : AVH :=
  match P.underlying t, x with
  | some .string, .string s => some (ptrTo h, h.new (.strIter s 0))
  | _, _ => none
noncomputable def aNext (h : AHeap) (x : Value) : AVH :=
  match x with
  | .pointer (some ⟨b, 0, none⟩) => match h.get b with
    | some (.strIter s pos) =>
      bif Nat.blt pos s.size then
        let d := Utf8.decode s pos
        some (.tuple #[.bool true, goInt pos, .int .i32 d.1], h.set b (.strIter s (pos + d.2)))
      else some (.tuple #[.bool false], h)
    | _ => none
  | _ => none
noncomputable def aExtract (x : Value) (i : Nat) : Option Value :=
  match x with
  | .tuple vs => vs[i]?
  | _ => none

noncomputable def on1 {β : Type} (x : Option Value) (k : Value → Option β) : Option β :=
  match x with
  | some v => k v
  | none => none
noncomputable def on2 {β : Type} (x y : Option Value) (k : Value → Value → Option β) : Option β :=
  match x with
  | some v => match y with
    | some w => k v w
    | none => none
  | none => none
noncomputable def on3 {β : Type} (x y z : Option Value) (k : Value → Value → Value → Option β) : Option β :=
  match x with
  | some v => on2 y z (k v)
  | none => none
noncomputable def onL {β : Type} (x : Option (List Value)) (k : List Value → Option β) : Option β :=
  match x with
  | some v => k v
  | none => none
noncomputable def aSliceOp (P : Program) (a : AAct) (h : AHeap) (t : TypeId) (x : Operand) (lo hi mx : Option Operand) : AVH :=
  match optI a lo, optI a hi, optI a mx with
  | some l, some u, some m => on1 (a.ev x) fun v => keep h (aSlice P h t v l u m)
  | _, _, _ => none

/-- What an operation of one step does: the value, and the heap. Calls are not among these. -/
noncomputable def aop (P : Program) (a : AAct) (h : AHeap) (o : Op) : AVH :=
  match o with
  | .move x => keep h (a.ev x)
  | .assign x => keep h (a.ev x)
  | .pick c x y => keep h (aPick a c x y)
  | .alloc elem => aAlloc P h elem
  | .box elem x => on1 (a.ev x) (aBox h elem)
  | .build t parts => onL (evs a (parts.toList.map (·.2))) fun vs => keep h (aBuild P t (parts.toList.map (·.1)) vs)
  | .buildSlice t len parts => onL (evs a (parts.toList.map (·.2))) fun vs => aBuildSlice P h t len (parts.toList.map (·.1)) vs
  | .load t x => on1 (a.ev x) fun v => keep h (aLoad P h t v)
  | .store t x y => on2 (a.ev x) (a.ev y) (aStore P h t)
  | .nilCheck x => on1 (a.ev x) fun v => keep h (aNilCheck v)
  | .binOp op t x y _ => on2 (a.ev x) (a.ev y) fun v w => keep h (aBin P op t x y v w)
  | .unOp op _ x => on1 (a.ev x) fun v => keep h (aUn P op v)
  | .convert src dst x => on1 (a.ev x) fun v => keep h (aConv P src dst v)
  | .makeFunc fn first captured => keep h (aMakeFunc a fn first.toList captured.toList)
  | .makeMap t r => aMakeMap P a h t r
  | .makeSlice t x y => on2 (a.ev x) (a.ev y) (aMakeSlice P h t)
  | .slice t x lo hi mx => aSliceOp P a h t x lo hi mx
  | .fieldAddr s x f => on1 (a.ev x) fun v => keep h (aFieldAddr P s v f)
  | .field t x f => on1 (a.ev x) fun v => keep h (aField P t v f)
  | .indexAddr t x ix => on2 (a.ev x) (a.ev ix) fun v w => keep h (aIndexAddr P t v w)
  | .index t x ix => on2 (a.ev x) (a.ev ix) fun v w => keep h (aIndex P t v w)
  | .lookup t x ix ok => on2 (a.ev x) (a.ev ix) fun v w => keep h (aLookup P h t v w ok)
  | .mapUpdate t x kx vx => on3 (a.ev x) (a.ev kx) (a.ev vx) (aMapUpdate P h t)
  | .insert t x kx vx => on3 (a.ev x) (a.ev kx) (a.ev vx) (aMapUpdate P h t)
  | .range t x => on1 (a.ev x) (aRange P h t)
  | .next x true => on1 (a.ev x) (aNext h)
  | .extract x i => on1 (a.ev x) fun v => keep h (aExtract v i)
  | _ => none
end Go.AM
end

section
namespace Go.AM
open Go

noncomputable def bytesOf (s : ByteArray) : List Value := s.data.toList.map fun b => .int .u8 b.toNat

/-- The cells of the first n elements of a slice, or of a string. -/
noncomputable def elemsOf (h : AHeap) (size n : Nat) : Value → Option (List Value)
  | .slice none _ _ => some []
  | .slice (some ⟨b, off, none⟩) len _ => bif Nat.ble n len then
      bif Nat.beq n 0 then some [] else
      match h.get b with
      | some (.cells c) => c.row off (n * size)
      | _ => none
    else none
  | .string s => bif Nat.beq n s.size then some (bytesOf s) else none
  | _ => none

noncomputable def lenV : Value → Option Nat
  | .slice _ n _ => some n
  | .string s => some s.size
  | _ => none

noncomputable def isIntD : TypeDesc → Bool
  | .int _ => true
  | _ => false

noncomputable def repeatL (z : List Value) : Nat → List Value
  | 0 => []
  | n + 1 => z ++ repeatL z n

/-- append: the new elements' cells are given. -/
noncomputable def appendTo (P : Program) (h : AHeap) (elem size bytes : Nat) (s : Value) (n : Nat) (new : List Value) : Option (Value × AHeap) :=
  bif !Nat.beq new.length (n * size) then none else
  match s with
  | .slice none len cap =>
    bif !(Nat.beq len 0 && Nat.beq cap 0) then none else
    bif Nat.beq n 0 then some (s, h)
    else bif Nat.ble ((2 * n + 1024) * bytes) (2 ^ 48) && Nat.ble 1 bytes then
      some (.slice (some ⟨h.next, 0, none⟩) n OPEN, newCells h (n * size) [] (Tr.nil.setAll 0 new) elem true)
    else none
  | .slice (some ⟨b, off, none⟩) len cap =>
    bif Nat.beq n 0 then (bif Nat.ble len cap then some (s, h) else none) else
    match h.get b with
    | some (.cells c) =>
      let need := len + n
      match knownCap P h b off cap size with
      | none => none
      | some known =>
        bif Nat.ble need known then
          (c.put (off + len * size) new).map fun c' => (.slice (some ⟨b, off, none⟩) need cap, h.set b (.cells c'))
        else bif Nat.ble ((2 * need + 1024) * bytes) (2 ^ 48) && Nat.ble 1 bytes then
          match c.row off (len * size) with
          | none => none
          | some old =>
            bif Nat.beq cap OPEN then
              bif Nat.beq (off + len * size) c.n && Nat.beq c.elem elem && new.all cellOk then
                some (.slice (some ⟨h.next, 0, none⟩) need OPEN, newCells (h.del b) (need * size) [] (Tr.nil.setAll 0 (old ++ new)) elem true (c.base && Nat.beq off 0))
              else none
            else some (.slice (some ⟨h.next, 0, none⟩) need OPEN, newCells h (need * size) [] (Tr.nil.setAll 0 (old ++ new)) elem true)
        else none
    | _ => none
  | _ => none

/-- append, of a slice's elements, of a string's bytes, or of so many zeros. -/
noncomputable def aAppend (P : Program) (h : AHeap) (elem tx : TypeId) (s x : Value) : Option (Value × AHeap) :=
  match zeroOf P elem with
  | none => none
  | some (z, size, bytes) => match P.underlying tx with
    | none => none
    | some d => bif isIntD d then match x with
        | .int _ l => bif decide (0 ≤ l) && decide (l ≤ 4294967296) && Nat.ble (l.toNat * bytes) (2 ^ 48) then appendTo P h elem size bytes s l.toNat (repeatL z l.toNat) else none
        | _ => none
      else match lenV x with
        | none => none
        | some n => match elemsOf h size n x with
          | none => none
          | some new => appendTo P h elem size bytes s n new

noncomputable def aCopy (h : AHeap) (size : Nat) (d x : Value) : Option (Value × AHeap) :=
  match d, lenV x with
  | .slice p len _, some n =>
    let k := bif Nat.ble n len then n else len
    match elemsOf h size k x with
    | none => none
    | some cells =>
      bif Nat.beq k 0 then some (goInt 0, h) else
      match p with
      | some ⟨b, off, none⟩ => match h.get b with
        | some (.cells c) => (c.put off cells).map fun c' => (goInt k, h.set b (.cells c'))
        | _ => none
      | _ => none
  | _, _ => none
noncomputable def aDelete (P : Program) (h : AHeap) (t : TypeId) (m k : Value) : Option (Value × AHeap) :=
  match P.underlying t, m with
  | some (.map key _), .map (some r) => match h.get r with
    | some (.map es clock) => match find P es.isEmpty key k es with
      | some (some (i, _)) => some (.tuple #[], h.set r (.map (es.eraseIdx i) clock))
      | some none => some (.tuple #[], h.set r (.map es clock))
      | none => none
    | _ => none
  | _, _ => none
noncomputable def aClear (P : Program) (h : AHeap) (t : TypeId) (x : Value) : Option (Value × AHeap) :=
  match P.underlying t, x with
  | some (.slice elem), .slice p len _ =>
    bif Nat.beq len 0 then some (.tuple #[], h) else
    match p with
    | some ⟨b, off, none⟩ => match zeroOf P elem, h.get b with
      | some (z, _, _), some (.cells c) => (c.put off (repeatL z len)).map fun c' => (.tuple #[], h.set b (.cells c'))
      | _, _ => none
    | _ => none
  | _, _ => none
noncomputable def abuiltin (P : Program) (h : AHeap) (b : Builtin) (argTypes : List TypeId) (args : List Value) : Option (Value × AHeap) :=
  match b, argTypes, args with
  | .len, [t], [x] => match P.underlying t, x with
    | some .string, .string s => some (goInt s.size, h)
    | some (.array n _), _ => some (goInt n, h)
    | some (.pointer arr), _ => match P.underlying arr with
      | some (.array n _) => some (goInt n, h)
      | _ => none
    | some (.slice _), .slice _ n _ => some (goInt n, h)
    | some (.map _ _), .map none => some (goInt 0, h)
    | some (.map _ _), .map (some r) => match h.get r with
      | some (.map es _) => some (goInt es.length, h)
      | _ => none
    | _, _ => none
  | .cap, [t], [x] => match P.underlying t, x with
    | some (.slice _), .slice _ _ c => bif Nat.beq c OPEN then none else some (goInt c, h)
    | _, _ => none
  | .append, [ts, tx], [s, x] => match P.underlying ts with
    | some (.slice elem) => aAppend P h elem tx s x
    | _ => none
  | .copy, [td, _], [d, x] => match P.underlying td with
    | some (.slice elem) => match sizeOfT P elem with
      | some size => aCopy h size d x
      | none => none
    | _ => none
  | .delete, [t, _], [m, k] => aDelete P h t m k
  | .min, _, vs => bif vs.all scalar then keep h (onlyFlat (quick P 400 (Builtin.min_ #[] 0 vs.toArray))) else none
  | .max, _, vs => bif vs.all scalar then keep h (onlyFlat (quick P 400 (Builtin.max_ #[] 0 vs.toArray))) else none
  | .clear, [t], [x] => aClear P h t x
  | _, _, _ => none

abbrev Run := Task → AHeap → Option (AOut × AHeap)

/-- The values put into temporaries, one each. -/
noncomputable def putAll (t : Tr Value) (n : Nat) : List Tmp → List Value → Tr Value
  | p :: ps, v :: vs => putAll (bif Nat.blt p n then t.set p v else t) n ps vs
  | _, _ => t

/-- A round of a loop over a function. -/
noncomputable def round (ih : Run) (l : Nat) (args : List Value) (h : AHeap) : Option (Value × AHeap) :=
  match h.get l with
  | some (.loop r) =>
    bif r.busy || r.done || !Nat.beq args.length r.params.size then none else
    match ih (.code (some l) r.fn r.assign { t := putAll r.t r.n r.params.toList args, n := r.n, marks := [], gl := h.gl }) h with
    | some (.exit .normal a₁, h₁) => match h₁.get l with
      | some (.loop r₁) =>
        bif r₁.busy || r₁.done then none else
        match ih (.code (some l) r.fn r.body a₁) (h₁.set l (.loop { r₁ with busy := true })) with
        | some (.exit e _, h₂) => match h₂.get l with
          | some (.loop r₂) =>
            match e with
            | .normal => some (.bool true, h₂.set l (.loop { r₂ with busy := false, done := false, pending := none }))
            | .exit id => some (.bool false, h₂.set l (.loop { r₂ with busy := false, done := true, pending := some (.exit id) }))
            | .ret => some (.bool false, h₂.set l (.loop { r₂ with busy := false, done := true, pending := some .ret }))
          | _ => none
        | _ => none
      | _ => none
    | _ => none
  | _ => none

noncomputable def opRun (P : Program) (ih : Run) (o : Oper) (a : AAct) (h : AHeap) : Option (Value × AHeap) :=
  match o.op with
  | .call c => match evs a c.args.toList with
    | none => none
    | some args => match c.callee with
      | .builtin b => abuiltin P h b c.argTypes.toList args
      | .value f => match a.ev f with
        | some (.func (.func g) first captured) => match ih (.call g (first.toList ++ args ++ captured.toList)) h with
          | some (.ret v, h') => some (v, h')
          | _ => none
        | some (.func (.yield l) _ _) => round ih l args h
        | _ => none
      | .invoke _ _ => none
  | _ => aop P a h o.op

noncomputable def wantedA (ops : Array Oper) (a : AAct) (o : Oper) : Bool :=
  match o.guard with
  | none => true
  | some (j, want) => match (ops[j]?).bind (·.dst) with
    | none => false
    | some t => match a.tmp t with
      | .bool b => b == want
      | _ => false

/-- One operation of a region, if its guard lets it. -/
noncomputable def opAt (P : Program) (ih : Run) (ops : Array Oper) (o : Oper) (a : AAct) (h : AHeap) : Option (AAct × AHeap) :=
  Bool.rec (some (a.put o.dst undef, h)) (Option.rec none (fun r => some (a.put o.dst r.1, r.2)) (opRun P ih o a h)) (wantedA ops a o)
noncomputable def opsRun (P : Program) (ih : Run) (ops : Array Oper) (l : List Oper) : AAct → AHeap → Option (AAct × AHeap) :=
  List.rec (motive := fun _ => AAct → AHeap → Option (AAct × AHeap)) (fun a h => some (a, h))
    (fun o _ rest a h => Option.rec none (fun r => rest r.1 r.2) (opAt P ih ops o a h)) l

noncomputable def resultsOf (P : Program) (a : AAct) (h : AHeap) : List ResultVar → Option (List Value)
  | [] => some []
  | .tmp t :: rs => (resultsOf P a h rs).map (a.tmp t :: ·)
  | .cell p t :: rs => match a.tmp p with
    | .pointer (some ⟨b, off, none⟩) => match loadAt P t h b off with
      | none => none
      | some v => (resultsOf P a h rs).map (v :: ·)
    | _ => none

noncomputable def dropMarks : List Nat → AHeap → Option AHeap
  | [], h => some h
  | m :: ms, h => match h.get m with
    | some .deferred => dropMarks ms (h.del m)
    | _ => none

/-- The one result, or all of them. -/
noncomputable def oneV : List Value → Value
  | [v] => v
  | vs => .tuple vs.toArray
noncomputable def leave (P : Program) (fn : Func) (a : AAct) (h : AHeap) : Option (AOut × AHeap) :=
  match dropMarks a.marks h with
  | none => none
  | some h => match resultsOf P a h fn.results.toList with
    | none => none
    | some vs => some (.ret (oneV vs), h)

noncomputable def step (P : Program) (ih : Run) : Run
  | .code rnd fn c a, h => match c with
    | .skip | .label _ => some (.exit .normal a, h)
    | .seq x y => match ih (.code rnd fn x a) h with
      | some (.exit .normal a', h') => ih (.code rnd fn y a') h'
      | r => r
    | .cond c x y => match a.ev c with
      | some (.bool true) => ih (.code rnd fn x a) h
      | some (.bool false) => ih (.code rnd fn y a) h
      | _ => none
    | .block id x => match ih (.code rnd fn x a) h with
      | some (.exit (.exit j) a', h') => bif Nat.beq j id then some (.exit .normal a', h') else some (.exit (.exit j) a', h')
      | r => r
    | .loop x => match ih (.code rnd fn x a) h with
      | some (.exit .normal a', h') => ih (.code rnd fn (.loop x) a') h'
      | r => r
    | .exit id => some (.exit (.exit id) a, h)
    | .ret => some (.exit .ret a, h)
    | .region _ _ true => none
    | .region _ ops false => match opsRun P ih ops ops.toList a h with
      | some (a', h') => some (.exit .normal a', h')
      | none => none
    | .rangeFunc f params assign body =>
      match a.ev f with
      | some (.func (.func g) first captured) =>
        match (match rnd with
          | none => some (h.next, [h.next], h.new .deferred)
          | some l => match h.get l with
            | some (.loop r) => some (r.defers, [], h)
            | _ => none : Option (Nat × List Nat × AHeap)) with
        | none => none
        | some (d, marks, h₁) =>
          let l := h₁.next
          let h₂ := h₁.new (.loop { busy := false, done := false, pending := none, fn, t := a.t, n := a.n, params, assign, body, defers := d })
          match ih (.call g (first.toList ++ [.func (.yield l) #[] #[]] ++ captured.toList)) h₂ with
          | some (.ret _, h₃) => match h₃.get l with
            | some (.loop r) =>
              bif r.busy then none else
              let h₄ := h₃.del l
              let a' := { a with marks := marks ++ a.marks }
              match r.pending with
              | none => some (.exit .normal a', h₄)
              | some (.exit id) => some (.exit (.exit id) a', h₄)
              | some .ret => some (.exit .ret a', h₄)
              | _ => none
            | _ => none
          | _ => none
      | _ => none
    | _ => none
  | .call f args, h => match P.funcs[f]? with
    | none => none
    | some fn => match fn.body with
      | none => none
      | some c =>
        match ih (.code none f c { t := Tr.nil.setAll 0 args, n := args.length + (fn.ntmps - args.length), marks := [], gl := h.gl }) h with
        | some (.exit .normal a', h') | some (.exit .ret a', h') => leave P fn a' h'
        | _ => none

noncomputable def run (P : Program) (n : Nat) : Run :=
  Nat.rec (motive := fun _ => Run) (fun _ _ => none) (fun _ ih => step P ih) n

/-- What a call returns, with nothing on the heap. -/
noncomputable def callV (P : Program) (n : Nat) (f : FuncId) (args : List Value) (h : AHeap) : Option (Value × AHeap) :=
  match run P n (.call f args) h with
  | some (.ret v, h') => some (v, h')
  | _ => none
end Go.AM
end

section
namespace Go.AM
open Go

/-- Where an abstract block lies: the block, the cells before its first one, all cells of the block, the cells of an element. -/
structure Th where
  blk : Nat
  sh : Nat
  room : Nat
  esz : Nat
structure Env where
  f : Nat → Th
  nx : Nat
structure Env.Le (θ θ' : Env) : Prop where
  nx : θ.nx ≤ θ'.nx
  f : ∀ i, i < θ.nx → θ'.f i = θ.f i
theorem Env.Le.refl (θ : Env) : θ.Le θ := ⟨Nat.le_refl _, fun _ _ => rfl⟩
theorem Env.Le.trans {a b c : Env} (h : a.Le b) (k : b.Le c) : a.Le c := ⟨Nat.le_trans h.nx k.nx, fun i hi => (k.f i (Nat.lt_of_lt_of_le hi h.nx)).trans (h.f i hi)⟩

inductive VRel (θ : Env) : Value → Value → Prop
  | bool (b : Bool) : VRel θ (.bool b) (.bool b)
  | int (k : IntKind) (n : Int) : VRel θ (.int k n) (.int k n)
  | string (s : ByteArray) : VRel θ (.string s) (.string s)
  | ptr0 : VRel θ (.pointer none) (.pointer none)
  | ptr {b o : Nat} (h : b < θ.nx) : VRel θ (.pointer (some ⟨b, o, none⟩)) (.pointer (some ⟨(θ.f b).blk, o + (θ.f b).sh, none⟩))
  | slice0 (n c : Nat) : VRel θ (.slice none n c) (.slice none n c)
  | slice {b o n c : Nat} (h : b < θ.nx) (hc : c < OPEN) : VRel θ (.slice (some ⟨b, o, none⟩) n c) (.slice (some ⟨(θ.f b).blk, o + (θ.f b).sh, none⟩) n c)
  | sliceO {b o n c : Nat} (h : b < θ.nx) (hn : n ≤ c) (hr : o + (θ.f b).sh + c * (θ.f b).esz = (θ.f b).room) :
      VRel θ (.slice (some ⟨b, o, none⟩) n OPEN) (.slice (some ⟨(θ.f b).blk, o + (θ.f b).sh, none⟩) n c)
  | sliceE {b o : Nat} {a : Addr} (h : b < θ.nx) (hr : o + (θ.f b).sh = (θ.f b).room) : VRel θ (.slice (some ⟨b, o, none⟩) 0 OPEN) (.slice (some a) 0 0)
  | sliceZ {b o : Nat} {a : Addr} (h : b < θ.nx) : VRel θ (.slice (some ⟨b, o, none⟩) 0 0) (.slice (some a) 0 0)
  | map0 : VRel θ (.map none) (.map none)
  | map {r : Nat} (h : r < θ.nx) : VRel θ (.map (some r)) (.map (some (θ.f r).blk))
  | func (f : FuncId) {u c u' c' : Array Value} (hu : u.size = u'.size) (hc : c.size = c'.size)
      (iu : ∀ (i : Nat) (v v' : Value), u[i]? = some v → u'[i]? = some v' → VRel θ v v') (ic : ∀ (i : Nat) (v v' : Value), c[i]? = some v → c'[i]? = some v' → VRel θ v v') :
      VRel θ (.func (.func f) u c) (.func (.func f) u' c')
  | yield {l : Nat} (h : l < θ.nx) : VRel θ (.func (.yield l) #[] #[]) (.func (.yield (θ.f l).blk) #[] #[])
  | nilFunc : VRel θ .nilFunc .nilFunc
  | nilIface : VRel θ .nilIface .nilIface
  | agg {cs ds : Array Value} (hs : cs.size = ds.size) (hi : ∀ (i : Nat) (v v' : Value), cs[i]? = some v → ds[i]? = some v' → VRel θ v v') : VRel θ (.agg cs) (.agg ds)
  | tuple {cs ds : Array Value} (hs : cs.size = ds.size) (hi : ∀ (i : Nat) (v v' : Value), cs[i]? = some v → ds[i]? = some v' → VRel θ v v') : VRel θ (.tuple cs) (.tuple ds)

structure LRel (θ : Env) (l l' : List Value) : Prop where
  len : l.length = l'.length
  at_ : ∀ (i : Nat) (v v' : Value), l[i]? = some v → l'[i]? = some v' → VRel θ v v'

theorem VRel.mono {θ θ' : Env} (h : θ.Le θ') {v v' : Value} (r : VRel θ v v') : VRel θ' v v' := by
  induction r with
  | bool b => exact .bool b
  | int k n => exact .int k n
  | string s => exact .string s
  | ptr0 => exact .ptr0
  | ptr hb => rw [← h.f _ hb]; exact .ptr (Nat.lt_of_lt_of_le hb h.nx)
  | slice0 n c => exact .slice0 n c
  | slice hb hc => rw [← h.f _ hb]; exact .slice (Nat.lt_of_lt_of_le hb h.nx) hc
  | sliceO hb hn hr => rw [← h.f _ hb] at hr ⊢; exact .sliceO (Nat.lt_of_lt_of_le hb h.nx) hn hr
  | sliceE hb hr => rw [← h.f _ hb] at hr; exact .sliceE (Nat.lt_of_lt_of_le hb h.nx) hr
  | sliceZ hb => exact .sliceZ (Nat.lt_of_lt_of_le hb h.nx)
  | map0 => exact .map0
  | map hb => rw [← h.f _ hb]; exact .map (Nat.lt_of_lt_of_le hb h.nx)
  | func f hu hc _ _ iu ic => exact .func f hu hc iu ic
  | yield hb => rw [← h.f _ hb]; exact .yield (Nat.lt_of_lt_of_le hb h.nx)
  | nilFunc => exact .nilFunc
  | nilIface => exact .nilIface
  | agg hs _ ih => exact .agg hs ih
  | tuple hs _ ih => exact .tuple hs ih
theorem LRel.mono {θ θ' : Env} (h : θ.Le θ') {l l' : List Value} (r : LRel θ l l') : LRel θ' l l' := ⟨r.len, fun i v v' a b => (r.at_ i v v' a b).mono h⟩

namespace LRel
variable {θ : Env}
theorem nil : LRel θ [] [] := ⟨rfl, fun i v v' h => by simp at h⟩
theorem cons {v v' : Value} {l l' : List Value} (h : VRel θ v v') (r : LRel θ l l') : LRel θ (v :: l) (v' :: l') :=
  ⟨by simp [r.len], fun i u u' a b => by
    cases i with
    | zero => simp at a b; subst a b; exact h
    | succ i => simp at a b; exact r.at_ i u u' a b⟩
theorem cons_inv {v : Value} {l m : List Value} (r : LRel θ (v :: l) m) : ∃ v' l', m = v' :: l' ∧ VRel θ v v' ∧ LRel θ l l' := by
  cases m with
  | nil => have := r.len; simp at this
  | cons v' l' =>
    exact ⟨v', l', rfl, r.at_ 0 v v' (by simp) (by simp), ⟨by have := r.len; simpa using this, fun i u u' a b => r.at_ (i + 1) u u' (by simpa using a) (by simpa using b)⟩⟩
theorem nil_inv {m : List Value} (r : LRel θ [] m) : m = [] := by
  have := r.len; simp at this; exact List.eq_nil_of_length_eq_zero this.symm
theorem append {l l' m m' : List Value} (a : LRel θ l l') (b : LRel θ m m') : LRel θ (l ++ m) (l' ++ m') := by
  induction l generalizing l' with
  | nil => rw [a.nil_inv]; exact b
  | cons v l ih => obtain ⟨v', l₁, rfl, hv, hl⟩ := a.cons_inv; exact .cons hv (ih hl)
theorem get {l l' : List Value} (r : LRel θ l l') {i : Nat} {v : Value} (h : l[i]? = some v) : ∃ v', l'[i]? = some v' ∧ VRel θ v v' := by
  have hi : i < l'.length := by rw [← r.len]; exact (List.getElem?_eq_some_iff.1 h).1
  exact ⟨l'[i], List.getElem?_eq_getElem hi, r.at_ i v _ h (List.getElem?_eq_getElem hi)⟩
theorem take {l l' : List Value} (r : LRel θ l l') (n : Nat) : LRel θ (l.take n) (l'.take n) := by
  induction l generalizing l' n with
  | nil => rw [r.nil_inv]; simpa using LRel.nil
  | cons v l ih =>
    obtain ⟨v', l₁, rfl, hv, hl⟩ := r.cons_inv
    cases n with
    | zero => simpa using LRel.nil
    | succ n => simpa using .cons hv (ih hl n)
theorem drop {l l' : List Value} (r : LRel θ l l') (n : Nat) : LRel θ (l.drop n) (l'.drop n) := by
  induction l generalizing l' n with
  | nil => rw [r.nil_inv]; simpa using LRel.nil
  | cons v l ih =>
    obtain ⟨v', l₁, rfl, hv, hl⟩ := r.cons_inv
    cases n with
    | zero => simpa using .cons hv hl
    | succ n => simpa using ih hl n
end LRel

theorem ARel.ofL {θ : Env} {cs ds : Array Value} (r : LRel θ cs.toList ds.toList) : cs.size = ds.size ∧ ∀ (i : Nat) (v v' : Value), cs[i]? = some v → ds[i]? = some v' → VRel θ v v' :=
  ⟨by simpa using r.len, fun i v v' a b => r.at_ i v v' (by simpa using a) (by simpa using b)⟩
theorem LRel.ofA {θ : Env} {cs ds : Array Value} (hs : cs.size = ds.size) (hi : ∀ (i : Nat) (v v' : Value), cs[i]? = some v → ds[i]? = some v' → VRel θ v v') : LRel θ cs.toList ds.toList :=
  ⟨by simpa using hs, fun i v v' a b => hi i v v' (by simpa using a) (by simpa using b)⟩
theorem VRel.agg' {θ : Env} {cs ds : Array Value} (r : LRel θ cs.toList ds.toList) : VRel θ (.agg cs) (.agg ds) := .agg (ARel.ofL r).1 (ARel.ofL r).2
theorem VRel.tuple' {θ : Env} {cs ds : Array Value} (r : LRel θ cs.toList ds.toList) : VRel θ (.tuple cs) (.tuple ds) := .tuple (ARel.ofL r).1 (ARel.ofL r).2
theorem VRel.agg_inv {θ : Env} {cs : Array Value} {v : Value} (r : VRel θ (.agg cs) v) : ∃ ds, v = .agg ds ∧ LRel θ cs.toList ds.toList := by
  cases r with
  | agg hs hi => exact ⟨_, rfl, .ofA hs hi⟩
theorem VRel.tuple_inv {θ : Env} {cs : Array Value} {v : Value} (r : VRel θ (.tuple cs) v) : ∃ ds, v = .tuple ds ∧ LRel θ cs.toList ds.toList := by
  cases r with
  | tuple hs hi => exact ⟨_, rfl, .ofA hs hi⟩
theorem VRel.func_inv {θ : Env} {f : FuncId} {u c : Array Value} {v : Value} (r : VRel θ (.func (.func f) u c) v) : ∃ u' c', v = .func (.func f) u' c' ∧ LRel θ u.toList u'.toList ∧ LRel θ c.toList c'.toList := by
  cases r with
  | func f hu hc iu ic => exact ⟨_, _, rfl, .ofA hu iu, .ofA hc ic⟩

theorem scalar_eq {θ : Env} {v v' : Value} (hs : scalar v = true) (r : VRel θ v v') : v' = v := by
  cases r <;> first | rfl | simp [scalar] at hs
theorem scalar_rel {θ : Env} {v : Value} (hs : scalar v = true) : VRel θ v v := by
  cases v <;> first | exact .bool _ | exact .int _ _ | exact .string _ | simp [scalar] at hs
theorem scalars_eq {θ : Env} : ∀ {l l' : List Value}, l.all scalar = true → LRel θ l l' → l' = l
  | [], _, _, r => r.nil_inv
  | v :: l, _, h, r => by
    obtain ⟨v', l₁, rfl, hv, hl⟩ := r.cons_inv
    simp at h
    rw [scalar_eq h.1 hv, scalars_eq (by simpa using h.2) hl]
theorem scalars_rel {θ : Env} : ∀ {l : List Value}, l.all scalar = true → LRel θ l l
  | [], _ => .nil
  | v :: l, h => by simp at h; exact .cons (scalar_rel h.1) (scalars_rel (by simpa using h.2))
theorem flat_eq {θ : Env} {v v' : Value} (hs : flat v = true) (r : VRel θ v v') : v' = v := by
  cases r with
  | agg hsz hi =>
    rename_i cs ds
    have := scalars_eq (by simpa [flat] using hs) (LRel.ofA hsz hi)
    rw [Array.toList_inj.1 this]
  | tuple hsz hi =>
    rename_i cs ds
    have := scalars_eq (by simpa [flat] using hs) (LRel.ofA hsz hi)
    rw [Array.toList_inj.1 this]
  | func f hu hc iu ic =>
    rename_i u c u' c'
    simp [flat] at hs
    obtain ⟨h1, h2⟩ := hs
    subst h1 h2
    have e1 : u' = #[] := by simpa using hu.symm
    have e2 : c' = #[] := by simpa using hc.symm
    rw [e1, e2]
  | bool _ => rfl
  | int _ _ => rfl
  | string _ => rfl
  | ptr0 => rfl
  | slice0 _ _ => rfl
  | map0 => rfl
  | nilFunc => rfl
  | nilIface => rfl
  | ptr _ => simp [flat] at hs
  | slice _ _ => simp [flat] at hs
  | sliceO _ _ _ => simp [flat] at hs
  | sliceE _ _ => simp [flat] at hs
  | sliceZ _ => simp [flat] at hs
  | map _ => simp [flat] at hs
  | yield _ => simp [flat] at hs
theorem flat_rel {θ : Env} {v : Value} (hs : flat v = true) : VRel θ v v := by
  cases v with
  | bool b => exact .bool b
  | int k n => exact .int k n
  | string s => exact .string s
  | pointer a => cases a with
    | none => exact .ptr0
    | some a => simp [flat] at hs
  | slice a n c => cases a with
    | none => exact .slice0 n c
    | some a => simp [flat] at hs
  | map r => cases r with
    | none => exact .map0
    | some r => simp [flat] at hs
  | nilFunc => exact .nilFunc
  | nilIface => exact .nilIface
  | agg cs => exact .agg' (scalars_rel (by simpa [flat] using hs))
  | tuple cs => exact .tuple' (scalars_rel (by simpa [flat] using hs))
  | func fn u c =>
    cases fn with
    | func f =>
      simp [flat] at hs
      obtain ⟨h1, h2⟩ := hs
      subst h1 h2
      exact .func f rfl rfl (fun i v v' h => by simp at h) (fun i v v' h => by simp at h)
    | _ => simp [flat] at hs
  | float _ _ => simp [flat] at hs
  | complex _ _ _ => simp [flat] at hs
  | chan _ => simp [flat] at hs
  | iface _ _ => simp [flat] at hs
theorem flats_rel {θ : Env} : ∀ {l : List Value}, l.all flat = true → LRel θ l l
  | [], _ => .nil
  | v :: l, h => by simp at h; exact .cons (flat_rel h.1) (flats_rel (by simpa using h.2))
theorem flat_undef : flat undef = true := rfl
theorem VRel.undef {θ : Env} : VRel θ undef undef := flat_rel rfl

/-- The cells of a value. -/
theorem VRel.cells {θ : Env} {v v' : Value} (r : VRel θ v v') : LRel θ v.cells.toList v'.cells.toList := by
  cases r with
  | agg hs hi => exact .ofA hs hi
  | bool b => exact .cons (.bool b) .nil
  | int k n => exact .cons (.int k n) .nil
  | string s => exact .cons (.string s) .nil
  | ptr0 => exact .cons .ptr0 .nil
  | ptr h => exact .cons (.ptr h) .nil
  | slice0 n c => exact .cons (.slice0 n c) .nil
  | slice h hc => exact .cons (.slice h hc) .nil
  | sliceO h hn hr => exact .cons (.sliceO h hn hr) .nil
  | sliceE h hr => exact .cons (.sliceE h hr) .nil
  | sliceZ h => exact .cons (.sliceZ h) .nil
  | map0 => exact .cons .map0 .nil
  | map h => exact .cons (.map h) .nil
  | func f hu hc iu ic => exact .cons (.func f hu hc iu ic) .nil
  | yield h => exact .cons (.yield h) .nil
  | nilFunc => exact .cons .nilFunc .nil
  | nilIface => exact .cons .nilIface .nil
  | tuple hs hi => exact .cons (.tuple hs hi) .nil
end Go.AM
end

section
namespace Go.AM
open Go

structure MRel (θ : Env) (es es' : List MapEntry) : Prop where
  len : es.length = es'.length
  at_ : ∀ (i : Nat) (e e' : MapEntry), es[i]? = some e → es'[i]? = some e' → e'.key = e.key ∧ e'.born = e.born ∧ VRel θ e.val e'.val
/-- Temporaries. -/
structure TRel (θ : Env) (t : Tr Value) (n : Nat) (tm : Array Value) : Prop where
  size : tm.size = n
  at_ : ∀ i : Nat, VRel θ (Option.rec undef (fun v => v) (t.get i)) (tm.getD i undef)
structure CRel (P : Program) (θ : Env) (th : Th) (c : ACells) (w : World) : Prop where
  at_ : ∀ (k : Nat) (v : Value), c.at k = some v → ∃ v', w.cell? ⟨th.blk, k + th.sh, none⟩ = some v' ∧ VRel θ v v'
  wr : c.ro = false → ∃ arr, w.heap[th.blk]? = some (.cells arr c.elem (0, 0)) ∧ th.sh + c.n ≤ arr.size ∧
    (c.opn = true → arr.size = th.room ∧ ∃ i, P.info? c.elem = some i ∧ i.size = th.esz)
  zero : c.base = true → th.sh = 0
  shut : c.ro = false → c.opn = false → th.sh = 0 ∧ ∀ arr elem fz, w.heap[th.blk]? = some (.cells arr elem fz) → arr.size = c.n
def ALoop.state (l : ALoop) : LoopState := if l.busy then .busy else if l.done then .done else .ready
def ORel (P : Program) (θ : Env) (th : Th) (o : AObj) (w : World) : Prop :=
  match o with
  | .cells c => CRel P θ th c w
  | .map es clock => ∃ es', w.heap[th.blk]? = some (.map es' clock) ∧ MRel θ es es'.toList
  | .strIter s pos => th.sh = 0 ∧ w.heap[th.blk]? = some (.stringIter s pos)
  | .loop l => ∃ tm fn, w.heap[th.blk]? = some (.loop { state := l.state, pending := l.pending, fn := fn, tmps := tm, params := l.params, assign := l.assign, body := l.body, defers := (θ.f l.defers).blk }) ∧ TRel θ l.t l.n tm ∧ l.defers < θ.nx
  | .deferred => w.heap[th.blk]? = some (.deferred (some []))
def AObj.wr : AObj → Bool
  | .cells c => !c.ro
  | _ => true

structure Rep (P : Program) (θ : Env) (h : AHeap) (w : World) : Prop where
  nx : θ.nx = h.next
  obj : ∀ (i : Nat) (o : AObj), h.get i = some o → i < h.next ∧ (θ.f i).blk < w.heap.size ∧ ORel P θ (θ.f i) o w
  inj : ∀ (i j : Nat) (oi oj : AObj), h.get i = some oi → h.get j = some oj → i ≠ j → oi.wr = true → (θ.f i).blk ≠ (θ.f j).blk
  low : ∀ i, i < θ.nx → (θ.f i).blk < w.heap.size
  glob : ∀ g, g < h.gl → g < θ.nx ∧ θ.f g = ⟨g, 0, 0, 0⟩
def Owns (θ : Env) (h : AHeap) (b : Nat) : Prop := ∃ i o, h.get i = some o ∧ o.wr = true ∧ (θ.f i).blk = b
/-- From the one world to the other one nothing has turned but what the abstract heap owns. -/
structure Goes (θ : Env) (h : AHeap) (w : World) (θ' : Env) (h' : AHeap) (w' : World) : Prop where
  le : θ.Le θ'
  os : w'.os = w.os
  tape : w'.tape = w.tape
  output : w'.output = w.output
  size : w.heap.size ≤ w'.heap.size
  frame : ∀ b, b < w.heap.size → ¬ Owns θ h b → w'.heap[b]? = w.heap[b]?
  own : ∀ b, b < w.heap.size → Owns θ' h' b → Owns θ h b
theorem Goes.refl (θ : Env) (h : AHeap) (w : World) : Goes θ h w θ h w := ⟨.refl θ, rfl, rfl, rfl, Nat.le_refl _, fun _ _ _ => rfl, fun _ _ o => o⟩
theorem Goes.trans {θ₁ θ₂ θ₃ : Env} {h₁ h₂ h₃ : AHeap} {w₁ w₂ w₃ : World} (a : Goes θ₁ h₁ w₁ θ₂ h₂ w₂) (b : Goes θ₂ h₂ w₂ θ₃ h₃ w₃) : Goes θ₁ h₁ w₁ θ₃ h₃ w₃ :=
  ⟨a.le.trans b.le, b.os.trans a.os, b.tape.trans a.tape, b.output.trans a.output, Nat.le_trans a.size b.size,
   fun k hk ho => (b.frame k (Nat.lt_of_lt_of_le hk a.size) (fun o => ho (a.own k hk o))).trans (a.frame k hk ho),
   fun k hk o => a.own k hk (b.own k (Nat.lt_of_lt_of_le hk a.size) o)⟩

theorem cell?_congr {w w' : World} {b : Nat} (e : w'.heap[b]? = w.heap[b]?) (o : Nat) : w'.cell? ⟨b, o, none⟩ = w.cell? ⟨b, o, none⟩ := by
  simp only [World.cell?, e]
theorem MRel.mono {θ θ' : Env} (h : θ.Le θ') {es es' : List MapEntry} (r : MRel θ es es') : MRel θ' es es' :=
  ⟨r.len, fun i e e' a b => let ⟨x, y, z⟩ := r.at_ i e e' a b; ⟨x, y, z.mono h⟩⟩
theorem TRel.mono {θ θ' : Env} (h : θ.Le θ') {t : Tr Value} {n : Nat} {tm : Array Value} (r : TRel θ t n tm) : TRel θ' t n tm := ⟨r.size, fun i => (r.at_ i).mono h⟩
theorem CRel.mono {P : Program} {θ θ' : Env} {th : Th} {c : ACells} {w : World} (h : θ.Le θ') (r : CRel P θ th c w) : CRel P θ' th c w :=
  ⟨fun k v e => let ⟨v', a, b⟩ := r.at_ k v e; ⟨v', a, b.mono h⟩, r.wr, r.zero, r.shut⟩
theorem ORel.mono {P : Program} {θ θ' : Env} {th : Th} {o : AObj} {w : World} (h : θ.Le θ') (r : ORel P θ th o w) : ORel P θ' th o w := by
  cases o with
  | cells c => exact CRel.mono h r
  | map es clock => obtain ⟨es', a, b⟩ := r; exact ⟨es', a, b.mono h⟩
  | strIter s pos => exact r
  | loop l => obtain ⟨tm, fn, a, b, c⟩ := r; exact ⟨tm, fn, by rw [h.f _ c]; exact a, b.mono h, Nat.lt_of_lt_of_le c h.nx⟩
  | deferred => exact r
theorem ORel.congr {P : Program} {θ : Env} {th : Th} {o : AObj} {w w' : World} (e : w'.heap[th.blk]? = w.heap[th.blk]?) (r : ORel P θ th o w) : ORel P θ th o w' := by
  cases o with
  | cells c => exact ⟨fun k v a => let ⟨v', x, y⟩ := r.at_ k v a; ⟨v', by rw [cell?_congr e]; exact x, y⟩, fun a => by rw [e]; exact r.wr a, r.zero, fun a b => by rw [e]; exact r.shut a b⟩
  | map es clock => obtain ⟨es', a, b⟩ := r; exact ⟨es', by rw [e]; exact a, b⟩
  | strIter s pos => exact ⟨r.1, by rw [e]; exact r.2⟩
  | loop l => obtain ⟨tm, fn, a, b⟩ := r; exact ⟨tm, fn, by rw [e]; exact a, b⟩
  | deferred => exact e.trans r

namespace AHeap
theorem get_new (h : AHeap) (o : AObj) (i : Nat) : (h.new o).get i = if i = h.next then some o else h.get i := Tr.get_set _ _ _ _
theorem get_set (h : AHeap) (i j : Nat) (o : AObj) : (h.set i o).get j = if j = i then some o else h.get j := Tr.get_set _ _ _ _
theorem get_del (h : AHeap) (i j : Nat) : (h.del i).get j = if j = i then none else h.get j := Tr.get_put _ _ _ _
theorem next_new (h : AHeap) (o : AObj) : (h.new o).next = h.next + 1 := rfl
end AHeap

def Env.ext (θ : Env) (th : Th) : Env := ⟨fun i => if i = θ.nx then th else θ.f i, θ.nx + 1⟩
theorem Env.le_ext (θ : Env) (th : Th) : θ.Le (θ.ext th) := ⟨Nat.le_succ _, fun i hi => by simp [Env.ext, Nat.ne_of_lt hi]⟩
theorem Env.ext_new (θ : Env) (th : Th) : (θ.ext th).f θ.nx = th := by simp [Env.ext]
theorem Env.ext_old (θ : Env) (th : Th) {i : Nat} (h : i < θ.nx) : (θ.ext th).f i = θ.f i := by simp [Env.ext, Nat.ne_of_lt h]

section
variable {P : Program} {θ : Env} {h : AHeap} {w w' : World}
theorem Rep.low_ext (r : Rep P θ h w) {th : Th} (hl : th.blk < w'.heap.size) (hs : ∀ b, b < w.heap.size → b < w'.heap.size) : ∀ i, i < (θ.ext th).nx → ((θ.ext th).f i).blk < w'.heap.size := by
  intro i hi
  rcases Nat.lt_or_eq_of_le (Nat.le_of_lt_succ hi) with h1 | rfl
  · rw [Env.ext_old _ _ h1]; exact hs _ (r.low i h1)
  · rw [Env.ext_new]; exact hl
theorem Rep.glob_ext (r : Rep P θ h w) {th : Th} : ∀ g, g < h.gl → g < (θ.ext th).nx ∧ (θ.ext th).f g = ⟨g, 0, 0, 0⟩ := fun g hg => by
  obtain ⟨h1, h2⟩ := r.glob g hg
  exact ⟨Nat.lt_succ_of_lt h1, by rw [Env.ext_old _ _ h1, h2]⟩
theorem Rep.lt (r : Rep P θ h w) {i : Nat} {o : AObj} (e : h.get i = some o) : i < θ.nx := by rw [r.nx]; exact (r.obj i o e).1

/-- A new object, in a block that is not below the heap's size. -/
theorem Rep.newAt (r : Rep P θ h w) {o : AObj} {th : Th} (hb : w.heap.size ≤ th.blk) (hl : th.blk < w'.heap.size)
    (os : w'.os = w.os) (tape : w'.tape = w.tape) (output : w'.output = w.output) (hs : w.heap.size ≤ w'.heap.size)
    (hf : ∀ b, b < w.heap.size → w'.heap[b]? = w.heap[b]?) (ho : ORel P (θ.ext th) th o w') :
    Rep P (θ.ext th) (h.new o) w' ∧ Goes θ h w (θ.ext th) (h.new o) w' := by
  have old : ∀ i oi, h.get i = some oi → i ≠ h.next := fun i oi e => Nat.ne_of_lt (r.obj i oi e).1
  refine ⟨⟨by rw [AHeap.next_new, ← r.nx]; rfl, ?_, ?_, r.low_ext hl (fun b hb => Nat.lt_of_lt_of_le hb hs), r.glob_ext⟩, ⟨Env.le_ext _ _, os, tape, output, hs, fun b hb _ => hf b hb, ?_⟩⟩
  · intro i oi e
    rw [AHeap.get_new] at e
    by_cases hi : i = h.next
    · subst hi
      rw [if_pos rfl] at e
      obtain rfl : o = oi := by simpa using e
      rw [← r.nx, Env.ext_new]
      exact ⟨by rw [AHeap.next_new, ← r.nx]; exact Nat.lt_succ_self _, hl, ho⟩
    · rw [if_neg hi] at e
      obtain ⟨a, b, c⟩ := r.obj i oi e
      rw [Env.ext_old _ _ (r.lt e)]
      exact ⟨Nat.lt_succ_of_lt a, Nat.lt_of_lt_of_le b hs, (c.mono (Env.le_ext _ _)).congr (hf _ b)⟩
  · intro i j oi oj ei ej hij hw
    rw [AHeap.get_new] at ei ej
    by_cases hi : i = h.next
    · subst hi
      rw [if_neg (Ne.symm hij)] at ej
      rw [Env.ext_old _ _ (r.lt ej), ← r.nx, Env.ext_new]
      have := (r.obj j oj ej).2.1
      omega
    · rw [if_neg hi] at ei
      rw [Env.ext_old _ _ (r.lt ei)]
      by_cases hj : j = h.next
      · subst hj
        rw [← r.nx, Env.ext_new]
        have := (r.obj i oi ei).2.1
        omega
      · rw [if_neg hj] at ej
        rw [Env.ext_old _ _ (r.lt ej)]
        exact r.inj i j oi oj ei ej hij hw
  · rintro b hbl ⟨i, oi, e, hw, rfl⟩
    rw [AHeap.get_new] at e
    by_cases hi : i = h.next
    · subst hi
      rw [← r.nx, Env.ext_new] at hbl
      omega
    · rw [if_neg hi] at e
      rw [Env.ext_old _ _ (r.lt e)]
      exact ⟨i, oi, e, hw, rfl⟩

def World.push (w : World) (o : Obj) : World := { w with heap := w.heap.push o }
theorem Rep.new (r : Rep P θ h w) {o : AObj} {ob : Obj} {th : Th} (hb : th.blk = w.heap.size)
    (ho : ORel P (θ.ext th) th o (World.push w ob)) : Rep P (θ.ext th) (h.new o) (World.push w ob) ∧ Goes θ h w (θ.ext th) (h.new o) (World.push w ob) :=
  r.newAt (by omega) (by simp [World.push, hb]) rfl rfl rfl (by simp [World.push])
    (fun b hl => by simp only [World.push]; rw [Array.getElem?_push, if_neg (by omega)]) ho
theorem push_get (w : World) (o : Obj) : (World.push w o).heap[w.heap.size]? = some o := by show (w.heap.push o)[w.heap.size]? = some o; exact Array.getElem?_push_size

/-- An object is turned in its own block. -/
theorem Rep.turn (r : Rep P θ h w) {i : Nat} {o o' : AObj} (e : h.get i = some o) (hw : o.wr = true) (_hw' : o'.wr = true)
    (os : w'.os = w.os) (tape : w'.tape = w.tape) (output : w'.output = w.output) (hs : w'.heap.size = w.heap.size)
    (hf : ∀ b, b ≠ (θ.f i).blk → w'.heap[b]? = w.heap[b]?) (ho : ORel P θ (θ.f i) o' w') : Rep P θ (h.set i o') w' ∧ Goes θ h w θ (h.set i o') w' := by
  refine ⟨⟨r.nx, ?_, ?_, fun j hj => hs ▸ r.low j hj, r.glob⟩, ⟨.refl _, os, tape, output, by omega, fun b _ hn => hf b (fun eb => hn ⟨i, o, e, hw, eb.symm⟩), ?_⟩⟩
  · intro j oj ej
    rw [AHeap.get_set] at ej
    by_cases hj : j = i
    · subst hj
      rw [if_pos rfl] at ej
      obtain rfl : o' = oj := by simpa using ej
      exact ⟨(r.obj j o e).1, by have := (r.obj j o e).2.1; omega, ho⟩
    · rw [if_neg hj] at ej
      obtain ⟨a, b, c⟩ := r.obj j oj ej
      exact ⟨a, by omega, c.congr (hf _ (fun eb => r.inj i j o oj e ej (Ne.symm hj) hw eb.symm))⟩
  · intro j k oj ok ej ek hjk hwj
    rw [AHeap.get_set] at ej ek
    have fj : ∃ oj', h.get j = some oj' ∧ oj'.wr = true := by
      by_cases hj : j = i
      · subst hj; exact ⟨o, e, hw⟩
      · rw [if_neg hj] at ej; exact ⟨oj, ej, hwj⟩
    have fk : ∃ ok', h.get k = some ok' := by
      by_cases hk : k = i
      · subst hk; exact ⟨o, e⟩
      · rw [if_neg hk] at ek; exact ⟨ok, ek⟩
    obtain ⟨oj', a, b⟩ := fj
    obtain ⟨ok', c⟩ := fk
    exact r.inj j k oj' ok' a c hjk b
  · rintro b _ ⟨j, oj, ej, hwj, rfl⟩
    rw [AHeap.get_set] at ej
    by_cases hj : j = i
    · subst hj; exact ⟨j, o, e, hw, rfl⟩
    · rw [if_neg hj] at ej; exact ⟨j, oj, ej, hwj, rfl⟩
theorem Rep.del (r : Rep P θ h w) (i : Nat) : Rep P θ (h.del i) w ∧ Goes θ h w θ (h.del i) w := by
  have key : ∀ j oj, (h.del i).get j = some oj → h.get j = some oj := fun j oj ej => by
    rw [AHeap.get_del] at ej
    by_cases hj : j = i
    · rw [if_pos hj] at ej; cases ej
    · rwa [if_neg hj] at ej
  exact ⟨⟨r.nx, fun j oj ej => r.obj j oj (key j oj ej), fun j k oj ok ej ek => r.inj j k oj ok (key j oj ej) (key k ok ek), r.low, r.glob⟩,
    ⟨.refl _, rfl, rfl, rfl, Nat.le_refl _, fun _ _ _ => rfl, fun b _ ⟨j, oj, ej, hwj, eb⟩ => ⟨j, oj, key j oj ej, hwj, eb⟩⟩⟩
/-- A draw. -/
theorem Rep.drawn (r : Rep P θ h w) (n : Nat) : Rep P θ h { w with drawn := n } ∧ Goes θ h w θ h { w with drawn := n } :=
  ⟨⟨r.nx, fun i o e => let ⟨a, b, c⟩ := r.obj i o e; ⟨a, b, ORel.congr (w := w) rfl c⟩, r.inj, r.low, r.glob⟩, ⟨.refl _, rfl, rfl, rfl, Nat.le_refl _, fun _ _ _ => rfl, fun _ _ o => o⟩⟩
end

structure ActRel (θ : Env) (a : AAct) (act : Act) : Prop where
  t : TRel θ a.t a.n act.tmps
  marks : act.defers = a.marks.map fun m => { target := .collected (θ.f m).blk, args := #[] }
  lt : ∀ m ∈ a.marks, m < θ.nx
  gl : ∀ g, g < a.gl → g < θ.nx ∧ θ.f g = ⟨g, 0, 0, 0⟩
theorem ActRel.mono {θ θ' : Env} (h : θ.Le θ') {a : AAct} {act : Act} (r : ActRel θ a act) : ActRel θ' a act :=
  ⟨r.t.mono h, by rw [r.marks]; exact List.map_congr_left fun m hm => by rw [h.f m (r.lt m hm)], fun m hm => Nat.lt_of_lt_of_le (r.lt m hm) h.nx, fun g hg => by
    obtain ⟨h1, h2⟩ := r.gl g hg
    exact ⟨Nat.lt_of_lt_of_le h1 h.nx, by rw [h.f g h1, h2]⟩⟩
theorem ActRel.tmp {θ : Env} {a : AAct} {act : Act} (r : ActRel θ a act) (i : Nat) : VRel θ (a.tmp i) (act.tmps.getD i undef) := r.t.at_ i
theorem ActRel.ev {θ : Env} {a : AAct} {act : Act} (r : ActRel θ a act) {x : Operand} {v : Value} (e : a.ev x = some v) : VRel θ v (act.eval x) := by
  cases x with
  | tmp t => obtain rfl : a.tmp t = v := by simpa [AAct.ev_tmp] using e
             exact r.tmp t
  | const c =>
    rw [AAct.ev_const] at e
    by_cases hf : flat c = true
    · rw [if_pos hf] at e; obtain rfl : c = v := by simpa using e
      exact flat_rel hf
    · rw [if_neg hf] at e; cases e
  | global g =>
    rw [AAct.ev_global] at e
    by_cases hg : g < a.gl
    · rw [if_pos hg] at e
      obtain rfl : Value.pointer (some ⟨g, 0, none⟩) = v := by simpa using e
      obtain ⟨h1, h2⟩ := r.gl g hg
      have h3 := VRel.ptr (θ := θ) (b := g) (o := 0) h1
      rw [h2] at h3
      exact h3
    · rw [if_neg hg] at e; cases e
  | func f => rw [AAct.ev_func] at e; obtain rfl : Value.func (.func f) #[] #[] = v := by simpa using e
              exact flat_rel rfl
theorem ActRel.put {θ : Env} {a : AAct} {act : Act} (r : ActRel θ a act) (d : Option Tmp) {v v' : Value} (hv : VRel θ v v') : ActRel θ (a.put d v) (act.put d v') := by
  cases d with
  | none => exact r
  | some d =>
    rw [AAct.put_some]
    by_cases hd : d < a.n
    · rw [if_pos hd]
      refine ⟨⟨by simp [Act.put, r.t.size], fun i => ?_⟩, r.marks, r.lt, r.gl⟩
      simp only [Act.put]
      rw [Tr.get_set]
      by_cases hi : i = d
      · subst hi; simp [r.t.size, hd, hv]
      · rw [if_neg hi]
        have := r.t.at_ i
        simpa [Array.getElem?_setIfInBounds_ne (Ne.symm hi)] using this
    · rw [if_neg hd]
      have : act.tmps.setIfInBounds d v' = act.tmps := Array.setIfInBounds_eq_of_size_le (by rw [r.t.size]; exact Nat.le_of_not_lt hd)
      simpa [Act.put, this] using r
theorem ActRel.evs {θ : Env} {a : AAct} {act : Act} (r : ActRel θ a act) : ∀ {xs : List Operand} {vs : List Value}, evs a xs = some vs → LRel θ vs (xs.map act.eval)
  | [], vs, e => by obtain rfl : [] = vs := by simpa [AM.evs] using e
                    exact .nil
  | x :: xs, vs, e => by
    simp only [AM.evs] at e
    cases h1 : a.ev x with
    | none => rw [h1] at e; cases e
    | some v =>
      rw [h1] at e
      cases h2 : AM.evs a xs with
      | none => rw [h2] at e; cases e
      | some us =>
        rw [h2] at e
        obtain rfl : v :: us = vs := by simpa using e
        exact .cons (r.ev h1) (r.evs h2)
end Go.AM
end

section
namespace Go.AM
open Go

/-- A piece of the model runs to a value and a world. -/
def Runs {α : Type} (P : Program) (s : Sem α) (w : World) (a : α) (w' : World) : Prop := s.run P w = .ok a w'

namespace Runs
variable {P : Program} {α β : Type} {w w₁ w₂ : World}
theorem pure (a : α) (w : World) : Runs P (Pure.pure a) w a w := rfl
theorem bind {s : Sem α} {f : α → Sem β} {a : α} {b : β} (h : Runs P s w a w₁) (k : Runs P (f a) w₁ b w₂) : Runs P (s >>= f) w b w₂ := by
  unfold Runs at *; rw [Sem.run_bind, h]; exact k
theorem map {s : Sem α} {f : α → β} {a : α} (h : Runs P s w a w₁) : Runs P (f <$> s) w (f a) w₁ := by
  unfold Runs at *; rw [Sem.run_map, h]; rfl
theorem program (w : World) : Runs P Go.program w P w := rfl
theorem load {a : Addr} {v : Value} (h : w.cell? a = some v) : Runs P (Go.load a) w v w := by
  unfold Runs; simp [h]
theorem new (o : Obj) (w : World) : Runs P (newObj o) w w.heap.size (World.push w o) := rfl
theorem getObj {r : Nat} {o : Obj} (h : w.heap[r]? = some o) (hc : ∀ a b c, o ≠ .cells a b c) : Runs P (Go.getObj r) w o w := by
  unfold Runs Go.getObj
  cases o <;> first | (simp only [Sem.run, h]; done) | (simp only [Sem.run, h]; rfl) | exact absurd rfl (hc _ _ _)
theorem shape (r : Nat) (w : World) : Runs P (Go.shape r) w (w.shape? r) w := rfl
end Runs

/-- The world with an object in the place of another one. -/
def setB (w : World) (b : Nat) (o : Obj) : World := { w with heap := w.heap.setIfInBounds b o }
theorem setB_get (w : World) (b : Nat) (o : Obj) (h : b < w.heap.size) : (setB w b o).heap[b]? = some o := by simp [setB, h]
theorem setB_other (w : World) {b c : Nat} (o : Obj) (h : c ≠ b) : (setB w b o).heap[c]? = w.heap[c]? := by simp [setB, Array.getElem?_setIfInBounds_ne (Ne.symm h)]
theorem setB_size (w : World) (b : Nat) (o : Obj) : (setB w b o).heap.size = w.heap.size := by simp [setB]
theorem Runs.setObj {P : Program} {w : World} {r : Nat} {o o' : Obj} (h : w.heap[r]? = some o) (hc : ∀ a b c, o ≠ .cells a b c) : Runs P (Go.setObj r o') w () (setB w r o') := by
  unfold Runs Go.setObj
  simp only [Sem.run, h]
  cases o <;> first | rfl | exact absurd rfl (hc _ _ _)

section
variable {P : Program} {w : World}
theorem run_info {t : TypeId} {i : TypeInfo} (h : info P t = some i) : Runs P (typeInfo t) w i w := by
  unfold info at h; simp [Runs, typeInfo, program, Sem.run, Sem.run_bind, h]
theorem run_under {t : TypeId} {d : TypeDesc} (h : P.underlying t = some d) : Runs P (underlying t) w d w := by
  simp [Runs, underlying, program, Sem.run, Sem.run_bind, h]
theorem run_size {t : TypeId} {i : TypeInfo} (h : info P t = some i) : Runs P (sizeOf t) w i.size w := (run_info h).bind (.pure _ _)
theorem run_zero {t : TypeId} {i : TypeInfo} {z : Value} (h : info P t = some i) (hz : i.zero = some z) : Runs P (zeroValue t) w z w :=
  (run_info h).bind (by rw [hz]; exact .pure _ _)
def isAggD : TypeDesc → Bool
  | .struct _ | .array _ _ => true
  | _ => false
theorem run_isAgg {t : TypeId} {d : TypeDesc} (h : P.underlying t = some d) : Runs P (isAgg t) w (isAggD d) w :=
  (run_under h).bind (by cases d <;> exact .pure _ _)

theorem add_off (b o n : Nat) : (⟨b, o, none⟩ : Addr).add n = ⟨b, o + n, none⟩ := by
  unfold Addr.add; by_cases h : n = 0
  · subst h; simp
  · simp [h]

theorem run_loadCellsFrom {b o : Nat} : ∀ (l : List Value) (i : Nat) (acc : Array Value), (∀ k, k < l.length → w.cell? ⟨b, o + i + k, none⟩ = l[k]?) →
    Runs P (loadCellsFrom ⟨b, o, none⟩ i l.length acc) w (acc ++ l.toArray) w := by
  intro l
  induction l with
  | nil => intro i acc _; simp only [List.length_nil, loadCellsFrom]; rw [show acc ++ ([] : List Value).toArray = acc by simp]; exact .pure _ _
  | cons v l ih =>
    intro i acc h
    simp only [List.length_cons, loadCellsFrom]
    refine Runs.bind (a := v) (w₁ := w) ?_ ?_
    · rw [add_off]; exact .load (by have := h 0 (by simp); simpa using this)
    · have := ih (i + 1) (acc.push v) (fun k hk => by
        have := h (k + 1) (by simp; omega)
        rw [show o + (i + 1) + k = o + i + (k + 1) by omega]; simpa using this)
      rw [show acc ++ (v :: l).toArray = acc.push v ++ l.toArray by apply Array.toList_inj.1; simp]
      exact this
theorem run_loadCells {b o : Nat} {l : List Value} (h : ∀ k, k < l.length → w.cell? ⟨b, o + k, none⟩ = l[k]?) : Runs P (loadCells ⟨b, o, none⟩ l.length) w l.toArray w := by
  have := run_loadCellsFrom (P := P) (w := w) (b := b) (o := o) l 0 #[] (fun k hk => by simpa using h k hk)
  simpa [loadCells] using this

/-- What a block of cells is behind some stores. -/
structure Stored (w : World) (b o : Nat) (vs : List Value) (elem : TypeId) (arr : Array Value) (w' : World) (arr' : Array Value) : Prop where
  os : w'.os = w.os
  tape : w'.tape = w.tape
  output : w'.output = w.output
  size : w'.heap.size = w.heap.size
  other : ∀ c, c ≠ b → w'.heap[c]? = w.heap[c]?
  here : w'.heap[b]? = some (.cells arr' elem (0, 0))
  len : arr'.size = arr.size
  at_ : ∀ k, arr'[k]? = if o ≤ k ∧ k < o + vs.length then vs[k - o]? else arr[k]?

theorem run_store {b o : Nat} {v : Value} {arr : Array Value} {elem : TypeId} (hg : w.heap[b]? = some (.cells arr elem (0, 0))) (ho : o < arr.size) (hv : cellOk v = true) :
    Runs P (store ⟨b, o, none⟩ v) w () (w.setCell ⟨b, o, none⟩ v) := by
  have hc : w.cell? ⟨b, o, none⟩ = some arr[o] := by simp [World.cell?, hg, ho]
  have hf := frozen_of_row w b o arr elem hg
  unfold Runs store
  cases v <;> first | (simp only [Sem.run, hc, hf]; rfl) | simp [cellOk] at hv

theorem run_storeCells {b o : Nat} {elem : TypeId} : ∀ (vs : List Value) (i : Nat) (w : World) (arr : Array Value), w.heap[b]? = some (.cells arr elem (0, 0)) → o + i + vs.length ≤ arr.size → vs.all cellOk = true →
    ∃ w' arr', Runs P (storeCells ⟨b, o, none⟩ vs i) w () w' ∧ Stored w b (o + i) vs elem arr w' arr' := by
  intro vs
  induction vs with
  | nil => intro i w arr hg _ _; exact ⟨w, arr, .pure _ _, rfl, rfl, rfl, rfl, fun _ _ => rfl, hg, rfl, fun k => by rw [if_neg (by simp)]⟩
  | cons v vs ih =>
    intro i w arr hg hl hv
    simp only [List.length_cons, List.all_cons, Bool.and_eq_true] at hl hv
    have h1 := run_store (P := P) (w := w) (o := o + i) (v := v) hg (by omega) hv.1
    have hg1 := heap_setCell_same w b (o + i) arr elem v hg
    obtain ⟨w', arr', hr, hs⟩ := ih (i + 1) (w.setCell ⟨b, o + i, none⟩ v) (arr.setIfInBounds (o + i) v) hg1 (by simp; omega) hv.2
    refine ⟨w', arr', ?_, hs.os, hs.tape, hs.output, hs.size.trans (by simp [World.setCell]), fun c hc => (hs.other c hc).trans (heap_setCell_other w _ c v hc), hs.here, by rw [hs.len]; simp, fun k => ?_⟩
    · show Runs P (do store _ v; storeCells _ vs (i + 1)) w () w'
      refine Runs.bind (a := ()) (w₁ := w.setCell ⟨b, o + i, none⟩ v) ?_ hr
      rw [add_off]; exact h1
    · rw [hs.at_ k]
      simp only [List.length_cons]
      by_cases hk : o + (i + 1) ≤ k ∧ k < o + (i + 1) + vs.length
      · rw [if_pos hk, if_pos (by omega)]
        obtain ⟨d, rfl⟩ : ∃ d, k = o + i + 1 + d := ⟨k - (o + i + 1), by omega⟩
        rw [show o + i + 1 + d - (o + (i + 1)) = d by omega, show o + i + 1 + d - (o + i) = d + 1 by omega]; simp
      · rw [if_neg hk]
        by_cases hk2 : k = o + i
        · subst hk2; rw [if_pos (by omega)]; simp [show o + i < arr.size by omega]
        · rw [if_neg (by omega), Array.getElem?_setIfInBounds_ne (Ne.symm hk2)]
end

/-! Rows of an abstract block. -/
theorem row_spec {c : ACells} : ∀ {n k : Nat} {l : List Value}, c.row k n = some l → l.length = n ∧ ∀ i, i < n → c.at (k + i) = l[i]?
  | 0, k, l, h => by obtain rfl : [] = l := by simpa [ACells.row] using h
                     exact ⟨rfl, fun i hi => absurd hi (Nat.not_lt_zero _)⟩
  | n + 1, k, l, h => by
    simp only [ACells.row] at h
    cases h1 : c.at k with
    | none => rw [h1] at h; cases h
    | some v =>
      rw [h1] at h
      cases h2 : c.row (k + 1) n with
      | none => rw [h2] at h; cases h
      | some us =>
        rw [h2] at h
        obtain rfl : v :: us = l := by simpa using h
        obtain ⟨a, b⟩ := row_spec h2
        refine ⟨by simp [a], fun i hi => ?_⟩
        cases i with
        | zero => simpa using h1
        | succ i => rw [show k + (i + 1) = k + 1 + i by omega, b i (by omega)]; simp
theorem row_rel {P : Program} {θ : Env} {th : Th} {c : ACells} {w : World} (r : CRel P θ th c w) {n k : Nat} {l : List Value} (h : c.row k n = some l) :
    ∃ l', LRel θ l l' ∧ l'.length = n ∧ ∀ i, i < n → w.cell? ⟨th.blk, k + th.sh + i, none⟩ = l'[i]? := by
  induction n generalizing k l with
  | zero =>
    obtain rfl : [] = l := by simpa [ACells.row] using h
    exact ⟨[], .nil, rfl, fun i hi => absurd hi (Nat.not_lt_zero _)⟩
  | succ n ih =>
    simp only [ACells.row] at h
    cases h1 : c.at k with
    | none => rw [h1] at h; cases h
    | some v =>
      rw [h1] at h
      cases h2 : c.row (k + 1) n with
      | none => rw [h2] at h; cases h
      | some us =>
        rw [h2] at h
        obtain rfl : v :: us = l := by simpa using h
        obtain ⟨v', a, b⟩ := r.at_ k v h1
        obtain ⟨l', x, y, z⟩ := ih h2
        refine ⟨v' :: l', .cons b x, by simp [y], fun i hi => ?_⟩
        cases i with
        | zero => simpa using a
        | succ i => rw [show k + th.sh + (i + 1) = k + 1 + th.sh + i by omega, z i (by omega)]; simp
/-- A store into an abstract block. -/
theorem put_spec {c c' : ACells} {k : Nat} {vs : List Value} (h : c.put k vs = some c') : c.ro = false ∧ k + vs.length ≤ c.n ∧ vs.all cellOk = true ∧ c' = { c with t := c.t.setAll k vs } := by
  unfold ACells.put at h
  cases hb : (!c.ro && Nat.ble (k + vs.length) c.n && vs.all cellOk) with
  | false => rw [hb] at h; simp at h
  | true =>
    rw [hb] at h
    simp only [Bool.and_eq_true, Bool.not_eq_true', Nat.ble_eq] at hb
    exact ⟨hb.1.1, hb.1.2, hb.2, by simpa using h.symm⟩
theorem at_lt {c : ACells} {k : Nat} {v : Value} (h : c.at k = some v) : k < c.n := by
  unfold ACells.at at h
  cases hb : Nat.blt k c.n with
  | false => rw [hb] at h; simp at h
  | true => exact Nat.le_of_ble_eq_true hb
theorem at_setAll (c : ACells) (k : Nat) (vs : List Value) (j : Nat) (hl : k + vs.length ≤ c.n) :
    ({ c with t := c.t.setAll k vs } : ACells).at j = if k ≤ j ∧ j < k + vs.length then vs[j - k]? else c.at j := by
  unfold ACells.at
  simp only [Tr.get_setAll]
  by_cases hj : k ≤ j ∧ j < k + vs.length
  · rw [if_pos hj, if_pos hj]
    have : Nat.blt j c.n = true := Nat.ble_eq_true_of_le (show j + 1 ≤ c.n by omega)
    rw [this, List.getElem?_eq_getElem (by omega : j - k < vs.length)]; rfl
  · rw [if_neg hj, if_neg hj]

theorem CRel.stored {P : Program} {θ : Env} {th : Th} {c c' : ACells} {w w' : World} {k : Nat} {vs vs' : List Value} {arr arr' : Array Value} (r : CRel P θ th c w) (h : c.put k vs = some c') (hv : LRel θ vs vs')
    (hg : w.heap[th.blk]? = some (.cells arr c.elem (0, 0))) (hs : Stored w th.blk (k + th.sh) vs' c.elem arr w' arr') : CRel P θ th c' w' := by
  obtain ⟨hro, hl, _, rfl⟩ := put_spec h
  refine ⟨fun j v e => ?_, fun _ => ?_, r.zero, fun _ => ?_⟩
  · rw [at_setAll c k vs j hl] at e
    have hcell : ∀ o, w'.cell? ⟨th.blk, o, none⟩ = arr'[o]? := fun o => by simp [World.cell?, hs.here]
    by_cases hj : k ≤ j ∧ j < k + vs.length
    · rw [if_pos hj] at e
      obtain ⟨v', a, b⟩ := hv.get e
      refine ⟨v', ?_, b⟩
      rw [hcell, hs.at_, if_pos (by rw [← hv.len]; omega), show j + th.sh - (k + th.sh) = j - k by omega]
      exact a
    · rw [if_neg hj] at e
      obtain ⟨v', a, b⟩ := r.at_ j v e
      refine ⟨v', ?_, b⟩
      rw [hcell, hs.at_, if_neg (by rw [← hv.len]; omega)]
      rw [← a]; simp [World.cell?, hg]
  · obtain ⟨arr0, a, b, d⟩ := r.wr hro
    rw [hg] at a
    simp only [Option.some.injEq, Obj.cells.injEq, and_true] at a
    subst a
    exact ⟨arr', hs.here, by rw [hs.len]; exact b, fun ho => by rw [hs.len]; exact d ho⟩
  · refine fun ho => ⟨(r.shut hro ho).1, fun a2 e2 f2 h2 => ?_⟩
    rw [hs.here] at h2
    simp only [Option.some.injEq, Obj.cells.injEq] at h2
    rw [← h2.1, hs.len]
    exact (r.shut hro ho).2 _ _ _ hg
end Go.AM
end

section
namespace Go.AM
open Go

/-- The model's piece does what the abstract machine says: value, heap, and nothing else. -/
def Ok (P : Program) (θ : Env) (h : AHeap) (w : World) (s : Sem Value) (v : Value) (h' : AHeap) : Prop :=
  ∃ v' w' θ', Runs P s w v' w' ∧ VRel θ' v v' ∧ Rep P θ' h' w' ∧ Goes θ h w θ' h' w'

section
variable {P : Program} {θ : Env} {h h' : AHeap} {w : World} {v : Value}
theorem Ok.keep {s : Sem Value} {v' : Value} (r : Rep P θ h w) (hr : Runs P s w v' w) (hv : VRel θ v v') : Ok P θ h w s v h :=
  ⟨v', w, θ, hr, hv, r, .refl _ _ _⟩

theorem quick_runs {α : Type} {P : Program} : ∀ {n : Nat} {s : Sem α} {a : α}, quick P n s = some a → ∀ w, Runs P s w a w
  | 0, s, a, h, w => by simp [quick] at h
  | n + 1, s, a, h, w => by
    cases s with
    | pure b => simp [quick] at h; subst h; rfl
    | program k => simp [quick] at h; exact quick_runs h w
    | mark m k => simp [quick] at h; exact quick_runs h w
    | _ => simp [quick] at h

theorem info_eq (t : TypeId) : info P t = P.info? t := rfl

theorem ptr_inv {b off : Nat} {pv : Value} (hp : VRel θ (.pointer (some ⟨b, off, none⟩)) pv) : pv = .pointer (some ⟨(θ.f b).blk, off + (θ.f b).sh, none⟩) ∧ b < θ.nx := by
  cases hp with
  | ptr hb => exact ⟨rfl, hb⟩

theorem oneOf_spec {l : List Value} (e : oneOf l = some v) : l = [v] := by
  match l, e with
  | [u], e => obtain rfl : u = v := by simpa [oneOf] using e
              rfl
theorem shut_spec {t : TypeId} {l : List Value} (e : shut P t l = some v) : ∃ d, P.underlying t = some d ∧ ((isAggD d = true ∧ v = .agg l.toArray) ∨ (isAggD d = false ∧ l = [v])) := by
  unfold shut at e
  cases hu : P.underlying t with
  | none => rw [hu] at e; cases e
  | some d =>
    rw [hu] at e
    refine ⟨d, rfl, ?_⟩
    cases d <;> first
      | exact .inl ⟨rfl, (Option.some.inj e).symm⟩
      | exact .inr ⟨rfl, oneOf_spec e⟩

theorem loadVar_ok (r : Rep P θ h w) {t : TypeId} {b off : Nat} (e : loadAt P t h b off = some v) :
    ∃ v', Runs P (loadVar t ⟨(θ.f b).blk, off + (θ.f b).sh, none⟩) w v' w ∧ VRel θ v v' := by
  unfold loadAt at e
  cases hg : h.get b with
  | none => rw [hg] at e; cases e
  | some o =>
    rw [hg] at e
    cases o with
    | cells c =>
      simp only at e
      cases hi : info P t with
      | none => rw [hi] at e; cases e
      | some i =>
        rw [hi] at e
        simp only at e
        cases hl : c.row off i.size with
        | none => rw [hl] at e; cases e
        | some l =>
          rw [hl] at e
          simp only [Option.bind_some] at e
          have hc : CRel P θ (θ.f b) c w := (r.obj b _ hg).2.2
          obtain ⟨l', ha, hn, hcell⟩ := row_rel hc hl
          obtain ⟨d, hu, hd⟩ := shut_spec e
          rcases hd with ⟨hd, rfl⟩ | ⟨hd, rfl⟩
          · refine ⟨.agg l'.toArray, ?_, .agg' (by simpa using ha)⟩
            refine (run_isAgg hu).bind ?_
            simp only [hd, if_true]
            refine (run_size hi).bind ?_
            refine Runs.bind (a := l'.toArray) (w₁ := w) ?_ (.pure _ _)
            rw [← hn]; exact run_loadCells (fun k hk => hcell k (by omega))
          · obtain ⟨v', m, rfl, hv, hm⟩ := ha.cons_inv
            obtain rfl := hm.nil_inv
            refine ⟨v', (run_isAgg hu).bind ?_, hv⟩
            simp only [hd, Bool.false_eq_true, if_false]
            exact .load (by have := hcell 0 (by simp at hn; omega); simpa using this)
    | _ => simp at e

theorem load_ok (r : Rep P θ h w) {t : TypeId} {x x' : Value} (hx : VRel θ x x') (e : aLoad P h t x = some v) : Ok P θ h w (Instr.loadAt t x') v h := by
  unfold aLoad at e
  split at e
  · obtain ⟨rfl, _⟩ := ptr_inv hx
    obtain ⟨v', hr, hv⟩ := loadVar_ok r e
    exact .keep r (Runs.bind (.pure _ _) hr) hv
  · cases e

theorem storeVar_ok (r : Rep P θ h w) {t : TypeId} {b off : Nat} {y y' : Value} (hy : VRel θ y y') (e : storeAt P t h b off y = some h') :
    ∃ w', Runs P (storeVar t ⟨(θ.f b).blk, off + (θ.f b).sh, none⟩ y') w () w' ∧ Rep P θ h' w' ∧ Goes θ h w θ h' w' := by
  unfold storeAt at e
  cases hg : h.get b with
  | none => rw [hg] at e; cases e
  | some o =>
    rw [hg] at e
    cases o with
    | cells c =>
      simp only at e
      cases hi : info P t with
      | none => rw [hi] at e; cases e
      | some i =>
        rw [hi] at e
        simp only at e
        cases hs : Nat.beq y.cells.size i.size with
        | false => rw [hs] at e; simp at e
        | true =>
          rw [hs] at e
          simp only [cond_true] at e
          cases hp : c.put off y.cells.toList with
          | none => rw [hp] at e; cases e
          | some c' =>
            rw [hp] at e
            obtain rfl : h.set b (.cells c') = h' := by simpa using e
            have hc : CRel P θ (θ.f b) c w := (r.obj b _ hg).2.2
            obtain ⟨hro, hl, hok, hc'⟩ := put_spec hp
            obtain ⟨arr, ha, hlen, _⟩ := hc.wr hro
            have hcs := hy.cells
            have hok' : y'.cells.toList.all cellOk = true := by
              have key : ∀ {l m : List Value}, LRel θ l m → l.all cellOk = true → m.all cellOk = true := by
                intro l
                induction l with
                | nil => intro m hm _; rw [hm.nil_inv]; rfl
                | cons u l ih =>
                  intro m hm hk
                  obtain ⟨u', m', rfl, hu, hm'⟩ := hm.cons_inv
                  simp only [List.all_cons, Bool.and_eq_true] at hk ⊢
                  refine ⟨?_, ih hm' hk.2⟩
                  have := hk.1
                  cases hu <;> first | rfl | simp [cellOk] at this
              exact key hcs hok
            obtain ⟨w', arr', hrun, hst⟩ := run_storeCells (P := P) (o := off + (θ.f b).sh) y'.cells.toList 0 w arr ha (by have := hcs.len; omega) hok'
            rw [Nat.add_zero] at hst
            have hrel := hc.stored hp hcs ha hst
            have hsz : y'.cells.size = i.size := by
              have h1 := hcs.len
              have h2 := Nat.eq_of_beq_eq_true hs
              simp at h1
              omega
            refine ⟨w', ?_, r.turn hg (by simp [AObj.wr, hro]) (by simp [AObj.wr, hc', hro]) hst.os hst.tape hst.output hst.size (fun k hk => hst.other k hk) hrel⟩
            unfold storeVar
            refine (run_size hi).bind ?_
            rw [if_neg (by simp [hsz])]
            exact hrun
    | _ => simp at e

theorem store_ok (r : Rep P θ h w) {t : TypeId} {x x' y y' : Value} (hx : VRel θ x x') (hy : VRel θ y y') (e : aStore P h t x y = some (v, h')) :
    v = undef ∧ ∃ w', Runs P (Instr.storeAt t x' y') w () w' ∧ Rep P θ h' w' ∧ Goes θ h w θ h' w' := by
  unfold aStore at e
  split at e
  · rename_i b off
    cases hs : storeAt P t h b off y with
    | none => rw [hs] at e; cases e
    | some h₁ =>
      rw [hs] at e
      simp only [Option.some.injEq, Prod.mk.injEq] at e
      obtain ⟨rfl, rfl⟩ := e
      obtain ⟨rfl, _⟩ := ptr_inv hx
      obtain ⟨w', a, b⟩ := storeVar_ok r hy hs
      exact ⟨rfl, w', Runs.bind (.pure _ _) a, b⟩
  · cases e

/-- A new row of cells, closed. -/
theorem newRow_ok (r : Rep P θ h w) {n : Nat} {z : List Value} {t : Tr Value} {elem : TypeId} {arr : Array Value} (hn : arr.size = n)
    (ha : ∀ (k : Nat) (u : Value), ({ n, z, t, elem, opn := false, ro := false } : ACells).at k = some u → ∃ u', arr[k]? = some u' ∧ VRel θ u u') :
    ∃ w' θ', Runs P (newRow elem arr) w ⟨w.heap.size, 0, none⟩ w' ∧ Rep P θ' (newCells h n z t elem false) w' ∧ Goes θ h w θ' (newCells h n z t elem false) w' ∧
      (θ'.f h.next).blk = w.heap.size ∧ (θ'.f h.next).sh = 0 ∧ h.next < θ'.nx := by
  let th : Th := ⟨w.heap.size, 0, 0, 0⟩
  obtain ⟨a, b⟩ := r.new (o := .cells { n, z, t, elem, opn := false, ro := false }) (ob := .cells arr elem) (th := th) rfl
    ⟨fun k u e => by
        obtain ⟨u', x, y⟩ := ha k u e
        refine ⟨u', ?_, y.mono (Env.le_ext _ _)⟩
        simp only [World.cell?]
        rw [push_get]
        simpa [th] using x,
     fun _ => ⟨arr, push_get _ _, by simp [th, hn], fun x => by cases x⟩, fun _ => rfl,
     fun _ _ => ⟨rfl, fun a2 e2 f2 h2 => by
        rw [push_get] at h2
        simp only [Option.some.injEq, Obj.cells.injEq] at h2
        rw [← h2.1]; exact hn⟩⟩
  refine ⟨_, _, Runs.bind (.new _ _) (.pure _ _), a, b, ?_, ?_, ?_⟩
  · rw [← r.nx, Env.ext_new]
  · rw [← r.nx, Env.ext_new]
  · rw [← r.nx]; exact Nat.lt_succ_self _
theorem ptrTo_rel {θ' : Env} {B : Nat} (a : (θ'.f h.next).blk = B) (b : (θ'.f h.next).sh = 0) (c : h.next < θ'.nx) : VRel θ' (ptrTo h) (.pointer (some ⟨B, 0, none⟩)) := by
  have := VRel.ptr (θ := θ') (b := h.next) (o := 0) c
  rw [a, b] at this
  exact this
theorem sliceTo_rel {θ' : Env} {B : Nat} (n c : Nat) (hc : c < OPEN) (a : (θ'.f h.next).blk = B) (b : (θ'.f h.next).sh = 0) (d : h.next < θ'.nx) :
    VRel θ' (.slice (some ⟨h.next, 0, none⟩) n c) (.slice (some ⟨B, 0, none⟩) n c) := by
  have := VRel.slice (θ := θ') (b := h.next) (o := 0) (n := n) d hc
  rw [a, b] at this
  exact this
theorem at_list (l : List Value) (elem : TypeId) (k : Nat) (u : Value) (e : ({ n := l.length, z := [], t := Tr.nil.setAll 0 l, elem, opn := false, ro := false } : ACells).at k = some u) : l[k]? = some u := by
  have hk := at_lt e
  simp only at hk
  unfold ACells.at at e
  rw [show Nat.blt k l.length = true from Nat.ble_eq_true_of_le hk] at e
  simp only [Tr.get_setAll, Nat.zero_le, true_and, Nat.zero_add, hk, if_true, Nat.sub_zero, List.getElem?_eq_getElem hk] at e ⊢
  simpa using e

theorem box_ok (r : Rep P θ h w) {elem : TypeId} {x x' : Value} (hx : VRel θ x x') (e : aBox h elem x = some (v, h')) : Ok P θ h w (Instr.box elem x') v h' := by
  unfold aBox at e
  simp only [Option.some.injEq, Prod.mk.injEq] at e
  obtain ⟨rfl, rfl⟩ := e
  have hc := hx.cells
  obtain ⟨w', θ', a, b, c, d, f, g⟩ := newRow_ok r (n := x.cells.size) (z := []) (t := Tr.nil.setAll 0 x.cells.toList) (elem := elem) (arr := x'.cells) (by simpa using hc.len.symm)
    (fun k u e => by
      have : x.cells.size = x.cells.toList.length := by simp
      rw [this] at e
      obtain ⟨u', p, q⟩ := hc.get (at_list _ _ _ _ e)
      exact ⟨u', by simpa using p, q⟩)
  exact ⟨_, w', θ', Runs.bind a (.pure _ _), ptrTo_rel d f g, b, c⟩

theorem zeroOf_spec {t : TypeId} {z : List Value} {n m : Nat} (e : zeroOf P t = some (z, n, m)) : ∃ i zv, info P t = some i ∧ i.zero = some zv ∧ zv.cells.toList = z ∧ z.all flat = true ∧ z.length = n ∧ i.size = n ∧ i.bytes = m := by
  unfold zeroOf at e
  cases hi : info P t with
  | none => rw [hi] at e; cases e
  | some i =>
    rw [hi] at e
    simp only at e
    cases hz : i.zero with
    | none => rw [hz] at e; cases e
    | some zv =>
      rw [hz] at e
      simp only at e
      cases hb : (zv.cells.toList.all flat && Nat.beq zv.cells.size i.size) with
      | false => rw [hb] at e; simp at e
      | true =>
        rw [hb] at e
        simp only [Bool.and_eq_true] at hb
        simp only [cond_true, Option.some.injEq, Prod.mk.injEq] at e
        obtain ⟨rfl, rfl, rfl⟩ := e
        have := Nat.eq_of_beq_eq_true hb.2
        exact ⟨i, zv, rfl, hz, rfl, hb.1, by simpa using this, rfl, rfl⟩
theorem at_zero {z : List Value} {n : Nat} {elem : TypeId} {k : Nat} {u : Value} (e : ({ n, z, t := .nil, elem, opn := false, ro := false } : ACells).at k = some u) : k < n ∧ z[k % z.length]? = some u := by
  refine ⟨at_lt e, ?_⟩
  unfold ACells.at at e
  rw [show Nat.blt k n = true from Nat.ble_eq_true_of_le (at_lt e)] at e
  simpa [Tr.get_nil] using e
theorem alloc_ok (r : Rep P θ h w) {elem : TypeId} (e : aAlloc P h elem = some (v, h')) : Ok P θ h w (Instr.alloc elem true (.tuple #[])) v h' := by
  unfold aAlloc at e
  cases hz : zeroOf P elem with
  | none => rw [hz] at e; cases e
  | some q =>
    obtain ⟨z, n, m⟩ := q
    rw [hz] at e
    simp only [Option.some.injEq, Prod.mk.injEq] at e
    obtain ⟨rfl, rfl⟩ := e
    obtain ⟨i, zv, hi, hiz, rfl, hfl, hlen, hsz, _⟩ := zeroOf_spec hz
    obtain ⟨w', θ', a, b, c, d, f, g⟩ := newRow_ok r (n := n) (z := zv.cells.toList) (t := .nil) (elem := elem) (arr := zv.cells) (by simpa using hlen)
      (fun k u e => by
        obtain ⟨hk, hu⟩ := at_zero e
        rw [hlen, Nat.mod_eq_of_lt hk] at hu
        obtain ⟨u', p, q⟩ := (flats_rel (θ := θ) hfl).get hu
        exact ⟨u', by simpa using p, q⟩)
    refine ⟨_, w', θ', ?_, ptrTo_rel d f g, b, c⟩
    exact (run_zero hi hiz).bind (Runs.bind a (.pure _ _))
end
end Go.AM
end

section
namespace Go.AM
open Go
section
variable {P : Program} {θ : Env} {h h' : AHeap} {w : World} {v : Value}

theorem sizeOfT_spec {t : TypeId} {n : Nat} (e : sizeOfT P t = some n) : ∃ i, info P t = some i ∧ i.size = n := by
  unfold sizeOfT at e
  cases hi : info P t with
  | none => rw [hi] at e; cases e
  | some i => rw [hi] at e; exact ⟨i, rfl, Option.some.inj e⟩
theorem run_sizeT {t : TypeId} {n : Nat} (e : sizeOfT P t = some n) : Runs P (sizeOf t) w n w := by
  obtain ⟨i, hi, rfl⟩ := sizeOfT_spec e
  exact run_size hi
theorem extract_rel {cs ds : Array Value} (r : LRel θ cs.toList ds.toList) (a b : Nat) : LRel θ (cs.extract a b).toList (ds.extract a b).toList := by
  simp only [Array.toList_extract, List.extract_eq_take_drop]
  exact (r.drop a).take _
theorem part_ok {t : TypeId} {size : Nat} {cs ds : Array Value} {off : Nat} (hs : sizeOfT P t = some size) (r : LRel θ cs.toList ds.toList) (e : shutAt P t size cs off = some v) :
    ∃ v', Runs P (part t ds off) w v' w ∧ VRel θ v v' := by
  unfold shutAt at e
  cases hu : P.underlying t with
  | none => rw [hu] at e; cases e
  | some d =>
    rw [hu] at e
    have agg : isAggD d = true → some (Value.agg (cs.extract off (off + size))) = some v → ∃ v', Runs P (part t ds off) w v' w ∧ VRel θ v v' := by
      intro hd he
      obtain rfl := Option.some.inj he
      refine ⟨.agg (ds.extract off (off + size)), (run_isAgg hu).bind ?_, .agg' (extract_rel r _ _)⟩
      simp only [hd, if_true]
      exact (run_sizeT hs).bind (.pure _ _)
    have one : isAggD d = false → cs[off]? = some v → ∃ v', Runs P (part t ds off) w v' w ∧ VRel θ v v' := by
      intro hd he
      obtain ⟨v', a, b⟩ := r.get (i := off) (v := v) (by simpa using he)
      refine ⟨v', (run_isAgg hu).bind ?_, b⟩
      have a' : ds[off]? = some v' := by simpa using a
      simp only [hd, Bool.false_eq_true, if_false, a']
      exact .pure _ _
    cases d <;> first | exact agg rfl e | exact one rfl e

theorem fieldAt_spec {t : TypeId} {f : Nat} {u : TypeId} {o size : Nat} (e : fieldAt P t f = some (u, o, size)) :
    ∃ fields fd, P.underlying t = some (.struct fields) ∧ fields[f]? = some fd ∧ fd.type = u ∧ fd.offset = o ∧ sizeOfT P u = some size := by
  unfold fieldAt at e
  split at e
  · rename_i fields hu
    cases hf : fields[f]? with
    | none => rw [hf] at e; cases e
    | some fd =>
      rw [hf] at e
      simp only at e
      cases hs : sizeOfT P fd.type with
      | none => rw [hs] at e; cases e
      | some s =>
        rw [hs] at e
        simp only [Option.some.injEq, Prod.mk.injEq] at e
        obtain ⟨rfl, rfl, rfl⟩ := e
        exact ⟨fields, fd, hu, hf, rfl, rfl, hs⟩
  · cases e

theorem field_ok (r : Rep P θ h w) {t : TypeId} {f : Nat} {x x' : Value} (hx : VRel θ x x') (e : aField P t x f = some v) : Ok P θ h w (Instr.field t x' f) v h := by
  unfold aField at e
  split at e
  · rename_i u o size cs hf
    obtain ⟨fields, fd, hu, hfd, rfl, rfl, hs⟩ := fieldAt_spec hf
    obtain ⟨ds, rfl, hr⟩ := hx.agg_inv
    obtain ⟨v', a, b⟩ := part_ok (w := w) hs hr e
    refine .keep r ((run_under hu).bind ?_) b
    simp only [hfd]
    exact Runs.bind (.pure _ _) a
  · cases e

theorem forceN_eq {β : Type} (n : Nat) (k : Nat → β) : forceN n k = k n := by cases n <;> rfl
theorem forceI_eq {β : Type} (n : Int) (k : Int → β) : forceI n k = k n := by cases n <;> simp [forceI, forceN_eq]

theorem fieldAddr_ok (r : Rep P θ h w) {t : TypeId} {f : Nat} {x x' : Value} (hx : VRel θ x x') (e : aFieldAddr P t x f = some v) : Ok P θ h w (Instr.fieldAt t x' f) v h := by
  unfold aFieldAddr at e
  split at e
  · rename_i u o size b off hf
    obtain ⟨fields, fd, hu, hfd, rfl, rfl, hs⟩ := fieldAt_spec hf
    obtain ⟨rfl, hb⟩ := ptr_inv hx
    cases hz : Nat.beq size 0 with
    | true => rw [hz] at e; simp at e
    | false =>
      rw [hz, forceN_eq] at e
      simp only [cond_false, Option.some.injEq] at e
      subst e
      have hne : size ≠ 0 := fun he => by rw [he] at hz; simp at hz
      refine .keep r (v' := .pointer (some ⟨(θ.f b).blk, off + (θ.f b).sh + fd.offset, none⟩)) ((run_under hu).bind ?_) ?_
      · simp only [hfd]
        refine Runs.bind (.pure _ _) (Runs.bind (a := ⟨(θ.f b).blk, off + (θ.f b).sh + fd.offset, none⟩) (w₁ := w) ?_ (.pure _ _))
        refine (run_sizeT hs).bind ?_
        rw [if_neg hne, add_off]; exact .pure _ _
      · have := VRel.ptr (θ := θ) (b := b) (o := off + fd.offset) hb
        rwa [show off + fd.offset + (θ.f b).sh = off + (θ.f b).sh + fd.offset by omega] at this
  · cases e

theorem inRange_spec {i : Int} {n m : Nat} (e : inRange i n = some m) : i = (m : Int) ∧ m < n := by
  unfold inRange at e
  cases i with
  | ofNat k =>
    cases hb : Nat.blt k n with
    | false => simp only [hb] at e; simp at e
    | true =>
      simp only [hb, cond_true, Option.some.injEq] at e
      subst e
      exact ⟨rfl, Nat.le_of_ble_eq_true hb⟩
  | negSucc k => simp at e
theorem idx_spec {x : Value} {i : Int} (e : idx x = some i) : ∃ k, x = .int k i := by
  cases x <;> simp [idx] at e
  subst e; exact ⟨_, rfl⟩
theorem int_inv {k : IntKind} {i : Int} {x : Value} (r : VRel θ (.int k i) x) : x = .int k i := scalar_eq rfl r
theorem elemAt_spec {b off size : Nat} {i : Int} {n : Nat} (e : elemAt b off size i n = some v) : ∃ m : Nat, i = (m : Int) ∧ m < n ∧ v = .pointer (some ⟨b, off + m * size, none⟩) := by
  unfold elemAt at e
  cases hr : inRange i n with
  | none => rw [hr] at e; cases e
  | some m =>
    rw [hr] at e
    simp only [forceN_eq, Option.some.injEq] at e
    exact ⟨m, (inRange_spec hr).1, (inRange_spec hr).2, e.symm⟩

theorem indexAddr_ok (r : Rep P θ h w) {t : TypeId} {x x' ix ix' : Value} (hx : VRel θ x x') (hi : VRel θ ix ix') (e : aIndexAddr P t x ix = some v) : Ok P θ h w (Instr.indexAt t x' ix') v h := by
  unfold aIndexAddr at e
  split at e
  · rename_i len elem b off i hu hix
    obtain ⟨k, rfl⟩ := idx_spec hix
    obtain rfl := int_inv hi
    obtain ⟨rfl, hb⟩ := ptr_inv hx
    cases hs : sizeOfT P elem with
    | none => rw [hs] at e; cases e
    | some size =>
      rw [hs] at e
      obtain ⟨m, rfl, hm, rfl⟩ := elemAt_spec e
      refine .keep r (v' := .pointer (some ⟨(θ.f b).blk, off + (θ.f b).sh + m * size, none⟩)) ?_ ?_
      · refine Runs.bind (.pure _ _) ((run_under hu).bind ?_)
        refine Runs.bind (a := (some ⟨(θ.f b).blk, off + (θ.f b).sh, none⟩, len, elem)) (w₁ := w) (Runs.bind (.pure _ _) (.pure _ _)) ?_
        refine (run_under hu).bind ?_
        simp only [Int.toNat_natCast]
        rw [if_pos ⟨by omega, by omega⟩]
        refine (run_sizeT hs).bind ?_
        rw [add_off]; exact .pure _ _
      · have := VRel.ptr (θ := θ) (b := b) (o := off + m * size) hb
        rwa [show off + m * size + (θ.f b).sh = off + (θ.f b).sh + m * size by omega] at this
  · rename_i elem b off len cap i hu hix
    obtain ⟨k, rfl⟩ := idx_spec hix
    obtain rfl := int_inv hi
    cases hs : sizeOfT P elem with
    | none => rw [hs] at e; cases e
    | some size =>
      rw [hs] at e
      obtain ⟨m, rfl, hm, rfl⟩ := elemAt_spec e
      have key : ∃ c', x' = .slice (some ⟨(θ.f b).blk, off + (θ.f b).sh, none⟩) len c' ∧ b < θ.nx := by
        cases hx with
        | slice hb hc => exact ⟨_, rfl, hb⟩
        | sliceO hb hn hr => exact ⟨_, rfl, hb⟩
        | sliceE hb hr => omega
        | sliceZ hb => omega
      obtain ⟨c', rfl, hb⟩ := key
      refine .keep r (v' := .pointer (some ⟨(θ.f b).blk, off + (θ.f b).sh + m * size, none⟩)) ?_ ?_
      · refine Runs.bind (.pure _ _) ((run_under hu).bind ?_)
        refine Runs.bind (a := (some ⟨(θ.f b).blk, off + (θ.f b).sh, none⟩, len, elem)) (w₁ := w) (.pure _ _) ?_
        refine (run_under hu).bind ?_
        simp only [Int.toNat_natCast]
        rw [if_pos ⟨by omega, by omega⟩]
        refine (run_sizeT hs).bind ?_
        rw [add_off]; exact .pure _ _
      · have := VRel.ptr (θ := θ) (b := b) (o := off + m * size) hb
        rwa [show off + m * size + (θ.f b).sh = off + (θ.f b).sh + m * size by omega] at this
  · cases e

theorem index_ok (r : Rep P θ h w) {t : TypeId} {x x' ix ix' : Value} (hx : VRel θ x x') (hi : VRel θ ix ix') (e : aIndex P t x ix = some v) : Ok P θ h w (Instr.index t x' ix') v h := by
  unfold aIndex at e
  split at e
  · rename_i len elem cs i hu hix
    obtain ⟨k, rfl⟩ := idx_spec hix
    obtain rfl := int_inv hi
    obtain ⟨ds, rfl, hr⟩ := hx.agg_inv
    cases hs : sizeOfT P elem with
    | none => rw [hs] at e; cases e
    | some size =>
      rw [hs] at e
      cases hm : inRange i len with
      | none => rw [hm] at e; cases e
      | some m =>
        rw [hm] at e
        obtain ⟨rfl, hlt⟩ := inRange_spec hm
        obtain ⟨v', a, b⟩ := part_ok (w := w) hs hr e
        refine .keep r (Runs.bind (.pure _ _) ((run_under hu).bind ?_)) b
        simp only [Int.toNat_natCast]
        rw [if_pos ⟨by omega, by omega⟩]
        exact (run_sizeT hs).bind a
  · rename_i s i hu hix
    obtain ⟨k, rfl⟩ := idx_spec hix
    obtain rfl := int_inv hi
    obtain rfl : x' = .string s := scalar_eq rfl hx
    cases hm : inRange i s.size with
    | none => rw [hm] at e; cases e
    | some m =>
      rw [hm] at e
      obtain ⟨rfl, hlt⟩ := inRange_spec hm
      simp only at e
      cases hb : s[m]? with
      | none => rw [hb] at e; cases e
      | some b =>
        rw [hb] at e
        obtain rfl := Option.some.inj e
        refine .keep r (v' := .int .u8 b.toNat) (Runs.bind (.pure _ _) ((run_under hu).bind ?_)) (.int _ _)
        simp only [Int.toNat_natCast]
        rw [if_pos (by omega)]
        simp only [hb]
        exact .pure _ _
  · cases e

/-! Arithmetic. -/
theorem inI64_spec {n : Int} (e : inI64 n = true) : -9223372036854775808 ≤ n ∧ n < 9223372036854775808 := by
  unfold inI64 at e
  cases n with
  | ofNat m => have := Nat.le_of_ble_eq_true e; simp only [Int.ofNat_eq_natCast]; omega
  | negSucc m => have := Nat.le_of_ble_eq_true e; omega
theorem wrap_i64 {n : Int} (a : -9223372036854775808 ≤ n) (b : n < 9223372036854775808) : IntKind.i64.wrap n = n := by
  have e1 : (2 ^ IntKind.i64.bits : Int) = 18446744073709551616 := by decide
  have e2 : (2 ^ (IntKind.i64.bits - 1) : Int) = 9223372036854775808 := by decide
  show (if (true && decide (n % (2 ^ IntKind.i64.bits : Int) ≥ (2 ^ (IntKind.i64.bits - 1) : Int))) = true then n % (2 ^ IntKind.i64.bits : Int) - (2 ^ IntKind.i64.bits : Int) else n % (2 ^ IntKind.i64.bits : Int)) = n
  simp only [Bool.true_and, decide_eq_true_eq, e1, e2]
  split <;> omega
theorem wrapF_eq (n : Int) : wrapF n = IntKind.i64.wrap n := by
  unfold wrapF
  cases hb : inI64 n with
  | true => rw [wrap_i64 (inI64_spec hb).1 (inI64_spec hb).2]; rfl
  | false => rfl
theorem ltI_eq (a b : Int) : ltI a b = decide (a < b) := by
  have nb : ∀ m n : Nat, Nat.blt m n = decide (m < n) := fun m n => by
    by_cases hl : m < n
    · rw [show Nat.blt m n = true from Nat.ble_eq_true_of_le hl, decide_eq_true hl]
    · rw [decide_eq_false hl]
      cases e : Nat.blt m n with
      | false => rfl
      | true => exact absurd (Nat.le_of_ble_eq_true e) hl
  cases a <;> cases b <;> simp only [ltI, nb, Int.ofNat_eq_natCast] <;> rw [eq_comm] <;> simp <;> omega
theorem eqI_eq (a b : Int) : eqI a b = (a == b) := by
  have nb : ∀ m n : Nat, Nat.beq m n = decide (m = n) := fun m n => by
    by_cases hl : m = n
    · subst hl; simp
    · rw [decide_eq_false hl]
      cases e : Nat.beq m n with
      | false => rfl
      | true => exact absurd (Nat.eq_of_beq_eq_true e) hl
  rw [show (a == b) = decide (a = b) by rw [Bool.eq_iff_iff]; simp]
  cases a <;> cases b <;> simp only [eqI, nb, Int.ofNat_eq_natCast] <;> rw [eq_comm] <;> simp <;> omega
theorem i64_eq (n : Int) : i64 n = some (.int .i64 (IntKind.i64.wrap n)) := by simp [i64, forceI_eq, wrapF_eq]
theorem boolV_eq (b : Bool) : boolV b = some (.bool b) := by cases b <;> rfl
theorem fastInt_ok {op : BinOp} {t : TypeId} {a b : Int} (e : fastInt op a b = some v) (x y : Operand) :
    Runs P (do eqGuard op t x y (.int .i64 a) (.int .i64 b); binOp op t (.int .i64 a) (.int .i64 b)) w v w := by
  have g : Runs P (eqGuard op t x y (.int .i64 a) (.int .i64 b)) w () w := by
    cases op <;> exact .pure _ _
  refine g.bind ?_
  cases op <;> simp only [fastInt, i64_eq, boolV_eq, Option.some.injEq, eqI_eq, ltI_eq, reduceCtorEq] at e <;> (try subst e)
  case add => exact .pure _ _
  case sub => exact .pure _ _
  case mul => exact .pure _ _
  case quo =>
    cases hb : (b == 0) with
    | true => rw [hb] at e; simp at e
    | false =>
      rw [hb] at e
      simp only [cond_false, Option.some.injEq] at e
      subst e
      have : b ≠ 0 := by simpa using hb
      simp [Runs, binOp, Op.intDiv, this]
  case rem =>
    cases hb : (b == 0) with
    | true => rw [hb] at e; simp at e
    | false =>
      rw [hb] at e
      simp only [cond_false, forceI_eq, Option.some.injEq] at e
      subst e
      have : b ≠ 0 := by simpa using hb
      simp [Runs, binOp, Op.intDiv, this]
  case eql => exact .pure _ _
  case neq => exact .pure _ _
  case lss => exact .pure _ _
  case leq => simp [Runs, binOp, Op.intCmp, Int.not_lt, ← decide_not]
  case gtr => simp [Runs, binOp, Op.intCmp]
  case geq => simp [Runs, binOp, Op.intCmp, Int.not_lt, ← decide_not]
end
end Go.AM
end

section
namespace Go.AM
open Go
section
variable {P : Program} {θ : Env} {h h' : AHeap} {w : World} {v : Value}

theorem onlyFlat_spec {q : Option Value} (e : onlyFlat q = some v) : q = some v ∧ flat v = true := by
  cases q with
  | none => simp [onlyFlat] at e
  | some u =>
    cases hf : flat u with
    | false => simp [onlyFlat, hf] at e
    | true =>
      simp only [onlyFlat, hf, cond_true, Option.some.injEq] at e
      subst e; exact ⟨rfl, hf⟩
theorem sliceNil_inv {n c : Nat} {y : Value} (r : VRel θ (.slice none n c) y) : y = .slice none n c := by cases r; rfl
theorem sliceSome_inv {a : Addr} {n c : Nat} {y : Value} (r : VRel θ (.slice (some a) n c) y) : ∃ a' m d, y = .slice (some a') m d := by
  cases r <;> exact ⟨_, _, _, rfl⟩
theorem un_ok (r : Rep P θ h w) {op : UnOp} {x x' : Value} (hx : VRel θ x x') (e : aUn P op x = some v) : Ok P θ h w (Op.unary op x') v h := by
  unfold aUn at e
  cases hs : scalar x with
  | false => simp [hs] at e
  | true =>
    simp only [hs, cond_true] at e
    obtain ⟨hq, hv⟩ := onlyFlat_spec e
    rw [scalar_eq hs hx]
    exact .keep r (quick_runs hq w) (flat_rel hv)
theorem conv_ok (r : Rep P θ h w) {src dst : TypeId} {x x' : Value} (hx : VRel θ x x') (e : aConv P src dst x = some v) : Ok P θ h w (convert src dst x') v h := by
  unfold aConv at e
  cases hs : scalar x with
  | false => simp [hs] at e
  | true =>
    simp only [hs, cond_true] at e
    obtain ⟨hq, hv⟩ := onlyFlat_spec e
    rw [scalar_eq hs hx]
    exact .keep r (quick_runs hq w) (flat_rel hv)
theorem bin_ok (r : Rep P θ h w) {op : BinOp} {t : TypeId} {x y : Operand} {vx vy vx' vy' : Value} (hx : VRel θ vx vx') (hy : VRel θ vy vy') (e : aBin P op t x y vx vy = some v) :
    Ok P θ h w (do eqGuard op t x y vx' vy'; binOp op t vx' vy') v h := by
  have slow : slowBin P op t x y vx vy = some v → Ok P θ h w (do eqGuard op t x y vx' vy'; binOp op t vx' vy') v h := by
    intro e
    unfold slowBin at e
    cases hf : (flat vx && flat vy) with
    | true =>
      rw [hf] at e
      simp only [Bool.and_eq_true] at hf
      rw [flat_eq hf.1 hx, flat_eq hf.2 hy]
      obtain ⟨hq, hv⟩ := onlyFlat_spec e
      exact .keep r (quick_runs hq w) (flat_rel hv)
    | false =>
      rw [hf] at e
      simp only [cond_false] at e
      split at e
      · rename_i hu
        obtain rfl := Option.some.inj e
        obtain rfl := sliceNil_inv hy
        obtain ⟨a', m, d, rfl⟩ := sliceSome_inv hx
        refine .keep r (v' := Value.bool false) ?_ (.bool _)
        refine Runs.bind (.pure _ _) ?_
        refine Runs.bind (a := false) (w₁ := w) ((run_under (by assumption)).bind ?_) (.pure _ _)
        exact .pure _ _
      · rename_i hu
        obtain rfl := Option.some.inj e
        obtain rfl := sliceNil_inv hy
        obtain ⟨a', m, d, rfl⟩ := sliceSome_inv hx
        refine .keep r (v' := Value.bool true) ?_ (.bool _)
        refine Runs.bind (.pure _ _) ?_
        refine Runs.bind (a := false) (w₁ := w) ((run_under (by assumption)).bind ?_) (.pure _ _)
        exact .pure _ _
      · cases e
  unfold aBin at e
  split at e
  · rename_i m n hm hn
    have fm : ∀ {u : Value} {k : Int}, asI64 u = some k → u = .int .i64 k := by
      intro u k hu
      unfold asI64 at hu
      split at hu
      · rw [Option.some.inj hu]
      · cases hu
    obtain rfl := fm hm
    obtain rfl := fm hn
    cases hfi : fastInt op m n with
    | none => rw [hfi] at e; exact slow e
    | some u =>
      rw [hfi] at e
      obtain rfl := Option.some.inj e
      rw [int_inv hx, int_inv hy]
      have hs : scalar u = true := by
        cases op <;> simp only [fastInt, i64_eq, boolV_eq, forceI_eq, Option.some.injEq, reduceCtorEq] at hfi <;> (first | (subst hfi; rfl) | (revert hfi; cases eqI n 0 <;> simp <;> (intro hfi; subst hfi; rfl)))
      exact .keep r (fastInt_ok hfi x y) (scalar_rel hs)
  · exact slow e

theorem makeFunc_ok (r : Rep P θ h w) {a : AAct} {act : Act} (ha : ActRel θ a act) {fn : Fn} {first captured : Array Operand} (e : aMakeFunc a fn first.toList captured.toList = some v) :
    Ok P θ h w (Instr.makeFunc fn (first.map act.eval) (captured.map act.eval)) v h := by
  unfold aMakeFunc at e
  split at e
  · rename_i f
    cases h1 : evs a first.toList with
    | none => rw [h1] at e; cases e
    | some vs =>
      cases h2 : evs a captured.toList with
      | none => rw [h1, h2] at e; cases e
      | some us =>
        rw [h1, h2] at e
        obtain rfl := Option.some.inj e
        have r1 := ha.evs h1
        have r2 := ha.evs h2
        have l1 : LRel θ vs.toArray.toList (first.map act.eval).toList := by simpa using r1
        have l2 : LRel θ us.toArray.toList (captured.map act.eval).toList := by simpa using r2
        exact .keep r (.pure _ _) (.func f (ARel.ofL l1).1 (ARel.ofL l2).1 (ARel.ofL l1).2 (ARel.ofL l2).2)
  · cases e

theorem newMap_ok (r : Rep P θ h w) : ∃ θ', Rep P θ' (h.new (.map [] 0)) (World.push w (.map #[] 0)) ∧ Goes θ h w θ' (h.new (.map [] 0)) (World.push w (.map #[] 0)) ∧ VRel θ' (.map (some h.next)) (.map (some w.heap.size)) := by
  let th : Th := ⟨w.heap.size, 0, 0, 0⟩
  obtain ⟨a, b⟩ := r.new (o := .map [] 0) (ob := .map #[] 0) (th := th) rfl ⟨#[], push_get _ _, ⟨rfl, fun i e e' x => by simp at x⟩⟩
  refine ⟨_, a, b, ?_⟩
  have hb : h.next < (θ.ext th).nx := by rw [← r.nx]; exact Nat.lt_succ_self _
  have := VRel.map hb
  rwa [← r.nx, Env.ext_new, r.nx] at this
theorem makeMap_ok (r : Rep P θ h w) {a : AAct} {act : Act} (ha : ActRel θ a act) {t : TypeId} {x : Option Operand} (e : aMakeMap P a h t x = some (v, h')) :
    Ok P θ h w (Instr.makeMap t (x.map act.eval)) v h' := by
  obtain ⟨θ', p, q, s⟩ := newMap_ok r
  unfold aMakeMap at e
  cases x with
  | none =>
    simp only [Option.some.injEq, Prod.mk.injEq] at e
    obtain ⟨rfl, rfl⟩ := e
    exact ⟨_, _, θ', Runs.bind (.new _ _) (.pure _ _), s, p, q⟩
  | some x =>
    simp only at e
    split at e
    · rename_i key elem k n hu hx
      simp only [Option.some.injEq, Prod.mk.injEq] at e
      obtain ⟨rfl, rfl⟩ := e
      have := int_inv (ha.ev hx)
      refine ⟨_, _, θ', ?_, s, p, q⟩
      simp only [Instr.makeMap, Option.map_some, this]
      refine (run_under hu).bind ?_
      refine Runs.bind (a := n) (w₁ := w) (Runs.bind (.pure _ _) (.pure _ _)) ?_
      exact Runs.bind (.new _ _) (.pure _ _)
    · cases e

theorem pick_spec {a : AAct} {act : Act} (ha : ActRel θ a act) {c x y : Operand} (e : aPick a c x y = some v) :
    ∃ b : Bool, act.eval c = .bool b ∧ VRel θ v (if b = true then act.eval x else act.eval y) := by
  unfold aPick at e
  split at e
  · rename_i hc
    have := scalar_eq rfl (ha.ev hc)
    cases hy : a.ev y with
    | none => rw [hy] at e; cases e
    | some u =>
      rw [hy] at e
      exact ⟨true, this, ha.ev (by simpa using e)⟩
  · rename_i hc
    have := scalar_eq rfl (ha.ev hc)
    cases hy : a.ev x with
    | none => rw [hy] at e; cases e
    | some u =>
      rw [hy] at e
      exact ⟨false, this, ha.ev (by simpa using e)⟩
  · cases e

theorem extract_ok (r : Rep P θ h w) {x x' : Value} {i : Nat} (hx : VRel θ x x') (e : aExtract x i = some v) : Ok P θ h w (Instr.extract x' i) v h := by
  unfold aExtract at e
  split at e
  · obtain ⟨ds, rfl, hr⟩ := hx.tuple_inv
    obtain ⟨v', a, b⟩ := hr.get (i := i) (v := v) (by simpa using e)
    have a' : ds[i]? = some v' := by simpa using a
    refine .keep r (v' := v') ?_ b
    simp only [Instr.extract, a']
    exact .pure _ _
  · cases e

theorem range_ok (r : Rep P θ h w) {t : TypeId} {x x' : Value} (hx : VRel θ x x') (e : aRange P h t x = some (v, h')) : Ok P θ h w (Instr.range t x') v h' := by
  unfold aRange at e
  split at e
  · rename_i s hu
    simp only [Option.some.injEq, Prod.mk.injEq] at e
    obtain ⟨rfl, rfl⟩ := e
    obtain rfl : x' = .string s := scalar_eq rfl hx
    let th : Th := ⟨w.heap.size, 0, 0, 0⟩
    obtain ⟨a, b⟩ := r.new (o := .strIter s 0) (ob := .stringIter s 0) (th := th) rfl ⟨rfl, push_get _ _⟩
    refine ⟨_, _, _, ?_, ptrTo_rel (θ' := θ.ext th) (B := w.heap.size) ?_ ?_ ?_, a, b⟩
    · refine (run_under hu).bind ?_
      refine Runs.bind (a := Obj.stringIter s 0) (w₁ := w) (.pure _ _) ?_
      exact Runs.bind (.new _ _) (.pure _ _)
    · rw [← r.nx, Env.ext_new]
    · rw [← r.nx, Env.ext_new]
    · rw [← r.nx]; exact Nat.lt_succ_self _
  · cases e

theorem next_ok (r : Rep P θ h w) {t : TypeId} {x x' : Value} (hx : VRel θ x x') (e : aNext h x = some (v, h')) : Ok P θ h w (Instr.next x' true t) v h' := by
  unfold aNext at e
  split at e
  · rename_i b
    obtain ⟨rfl, hb⟩ := ptr_inv hx
    split at e
    · rename_i s pos hg
      obtain ⟨hsh, hh⟩ : (θ.f b).sh = 0 ∧ w.heap[(θ.f b).blk]? = some (.stringIter s pos) := (r.obj b _ hg).2.2
      have hget : Runs P (getObj (θ.f b).blk) w (.stringIter s pos) w := .getObj hh (fun _ _ _ => by simp)
      rw [show (0 : Nat) + (θ.f b).sh = 0 by omega]
      cases hl : Nat.blt pos s.size with
      | true =>
        rw [hl] at e
        simp only [cond_true, Option.some.injEq, Prod.mk.injEq] at e
        obtain ⟨rfl, rfl⟩ := e
        have hlt : pos < s.size := Nat.le_of_ble_eq_true hl
        have hbl := (r.obj b _ hg).2.1
        let ob : Obj := .stringIter s (pos + (Utf8.decode s pos).2)
        obtain ⟨p, q⟩ := r.turn (w' := setB w (θ.f b).blk ob) (o' := .strIter s (pos + (Utf8.decode s pos).2)) hg rfl rfl rfl rfl rfl (setB_size _ _ _) (fun c hc => setB_other w ob hc) ⟨hsh, setB_get w _ ob hbl⟩
        refine ⟨.tuple #[.bool true, goInt pos, .int .i32 (Utf8.decode s pos).1], _, θ, ?_, flat_rel rfl, p, q⟩
        refine hget.bind ?_
        simp only [hlt, if_true]
        exact Runs.bind (.setObj hh (fun _ _ _ => by simp)) (.pure _ _)
      | false =>
        rw [hl] at e
        simp only [cond_false, Option.some.injEq, Prod.mk.injEq] at e
        obtain ⟨rfl, rfl⟩ := e
        have hlt : ¬ pos < s.size := fun hh => by
          have := Nat.ble_eq_true_of_le hh
          rw [show Nat.blt pos s.size = true from this] at hl; cases hl
        refine .keep r (v' := .tuple #[.bool false]) ?_ (flat_rel rfl)
        refine hget.bind ?_
        simp only [hlt, if_false]
        exact .pure _ _
    · cases e
  · cases e
end
end Go.AM
end

section
namespace Go.AM
open Go
section
variable {P : Program} {θ : Env} {h h' : AHeap} {w : World} {v : Value}

theorem quick_bind {α β : Type} {P : Program} : ∀ {n : Nat} {s : Sem α} {f : α → Sem β} {b : β}, quick P n (s >>= f) = some b → ∃ a m, (∀ w, Runs P s w a w) ∧ quick P m (f a) = some b
  | 0, s, f, b, h => by simp [quick] at h
  | n + 1, s, f, b, h => by
    cases s with
    | pure a => exact ⟨a, n + 1, fun w => .pure _ _, h⟩
    | program k =>
      have h' : quick P n (k P >>= f) = some b := h
      obtain ⟨a, m, x, y⟩ := quick_bind h'
      exact ⟨a, m, fun w => x w, y⟩
    | mark mk k =>
      have h' : quick P n (k >>= f) = some b := h
      obtain ⟨a, m, x, y⟩ := quick_bind h'
      exact ⟨a, m, fun w => x w, y⟩
    | load m a k => exact absurd h (by simp [quick, Bind.bind, Sem.bind])
    | store m a u k => exact absurd h (by simp [quick, Bind.bind, Sem.bind])
    | new o k => exact absurd h (by simp [quick, Bind.bind, Sem.bind])
    | shape r k => exact absurd h (by simp [quick, Bind.bind, Sem.bind])
    | freeze a m k => exact absurd h (by simp [quick, Bind.bind, Sem.bind])
    | frozen a k => exact absurd h (by simp [quick, Bind.bind, Sem.bind])
    | getObj r k => exact absurd h (by simp [quick, Bind.bind, Sem.bind])
    | setObj r o k => exact absurd h (by simp [quick, Bind.bind, Sem.bind])
    | choose q k => exact absurd h (by simp [quick, Bind.bind, Sem.bind])
    | sys c k => exact absurd h (by simp [quick, Bind.bind, Sem.bind])
    | halt x => exact absurd h (by simp [quick, Bind.bind, Sem.bind])

/-- What a search has found in related entries. -/
def FRel (θ : Env) : Option (Nat × Value) → Option (Nat × Value) → Prop
  | none, none => True
  | some (i, v), some (j, v') => i = j ∧ VRel θ v v'
  | _, _ => False
theorem MRel.nil_inv {m : List MapEntry} (r : MRel θ [] m) : m = [] := by
  have := r.len; simp at this; exact List.eq_nil_of_length_eq_zero this.symm
theorem MRel.cons_inv {e : MapEntry} {l m : List MapEntry} (r : MRel θ (e :: l) m) : ∃ e' l', m = e' :: l' ∧ e'.key = e.key ∧ e'.born = e.born ∧ VRel θ e.val e'.val ∧ MRel θ l l' := by
  cases m with
  | nil => have := r.len; simp at this
  | cons e' l' =>
    obtain ⟨a, b, c⟩ := r.at_ 0 e e' (by simp) (by simp)
    exact ⟨e', l', rfl, a, b, c, ⟨by have := r.len; simpa using this, fun i u u' x y => r.at_ (i + 1) u u' (by simpa using x) (by simpa using y)⟩⟩
theorem MRel.isEmpty {l m : List MapEntry} (r : MRel θ l m) : m.isEmpty = l.isEmpty := by
  cases l with
  | nil => rw [r.nil_inv]
  | cons e l => obtain ⟨e', l', rfl, _⟩ := r.cons_inv; rfl
theorem findNow_rel {kind : TypeDesc} {k : Value} : ∀ {es es' : List MapEntry} {i : Nat} {q : Option (Nat × Value)}, MRel θ es es' → Instr.findNow kind k es i = some q → ∃ q', Instr.findNow kind k es' i = some q' ∧ FRel θ q q'
  | [], es', i, q, r, e => by
    rw [r.nil_inv]
    simp only [Instr.findNow, Option.some.injEq] at e
    subst e
    exact ⟨none, rfl, trivial⟩
  | x :: es, es', i, q, r, e => by
    obtain ⟨x', l', rfl, hk, _, hv, hl⟩ := r.cons_inv
    simp only [Instr.findNow] at e ⊢
    rw [hk]
    cases hs : Instr.sameNow kind k x.key with
    | none => rw [hs] at e; cases e
    | some b =>
      rw [hs] at e
      cases b with
      | true =>
        simp only [Option.some.injEq] at e
        subst e
        exact ⟨_, rfl, rfl, hv⟩
      | false => exact findNow_rel hl e
theorem findNow_none {kind : TypeDesc} {k : Value} : ∀ {es es' : List MapEntry} {i : Nat}, MRel θ es es' → Instr.findNow kind k es i = none → Instr.findNow kind k es' i = none
  | [], es', i, r, e => by simp [Instr.findNow] at e
  | x :: es, es', i, r, e => by
    obtain ⟨x', l', rfl, hk, _, hv, hl⟩ := r.cons_inv
    simp only [Instr.findNow] at e ⊢
    rw [hk]
    cases hs : Instr.sameNow kind k x.key with
    | none => rfl
    | some b =>
      rw [hs] at e
      cases b with
      | true => simp at e
      | false => exact findNow_none hl e
theorem findAsking_rel {kt : TypeId} {k : Value} : ∀ {es es' : List MapEntry} {i n : Nat} {q : Option (Nat × Value)}, MRel θ es es' → quick P n (Instr.findAsking kt k es i) = some q → ∃ q', (∀ w, Runs P (Instr.findAsking kt k es' i) w q' w) ∧ FRel θ q q'
  | [], es', i, n, q, r, e => by
    rw [r.nil_inv]
    cases n with
    | zero => simp [quick] at e
    | succ n =>
      have : q = none := by simpa [Instr.findAsking, quick, Pure.pure] using e.symm
      subst this
      exact ⟨none, fun w => .pure _ _, trivial⟩
  | x :: es, es', i, n, q, r, e => by
    obtain ⟨x', l', rfl, hk, _, hv, hl⟩ := r.cons_inv
    have e' : quick P n (Op.equal kt k x.key >>= fun b => if b = true then Pure.pure (some (i, x.val)) else Instr.findAsking kt k es (i + 1)) = some q := e
    obtain ⟨b, m, ha, hb⟩ := quick_bind e'
    cases b with
    | true =>
      simp only [if_true] at hb
      cases m with
      | zero => simp [quick] at hb
      | succ m =>
        have : q = some (i, x.val) := by simpa [quick, Pure.pure] using hb.symm
        subst this
        refine ⟨some (i, x'.val), fun w => ?_, rfl, hv⟩
        show Runs P (Op.equal kt k x'.key >>= fun b => if b = true then Pure.pure (some (i, x'.val)) else Instr.findAsking kt k l' (i + 1)) w _ w
        rw [hk]
        exact (ha w).bind (.pure _ _)
    | false =>
      simp only [Bool.false_eq_true, if_false] at hb
      obtain ⟨q', hq, hf⟩ := findAsking_rel hl hb
      refine ⟨q', fun w => ?_, hf⟩
      show Runs P (Op.equal kt k x'.key >>= fun b => if b = true then Pure.pure (some (i, x'.val)) else Instr.findAsking kt k l' (i + 1)) w _ w
      rw [hk]
      exact (ha w).bind (hq w)
theorem findKey_rel {kt : TypeId} {k : Value} {es es' : List MapEntry} {n : Nat} {q : Option (Nat × Value)} (r : MRel θ es es') (e : quick P n (Instr.findKey kt k es) = some q) :
    ∃ q', (∀ w, Runs P (Instr.findKey kt k es') w q' w) ∧ FRel θ q q' := by
  obtain ⟨d, m, hd, hm⟩ := quick_bind (s := underlying kt) (f := fun d => match Instr.findNow d k es 0 with | some r => Pure.pure r | none => Instr.findAsking kt k es) e
  have go : ∀ {s : Sem (Option (Nat × Value))} {q' : Option (Nat × Value)}, (match Instr.findNow d k es' 0 with | some r => Pure.pure r | none => Instr.findAsking kt k es') = s → (∀ w, Runs P s w q' w) → ∀ w, Runs P (Instr.findKey kt k es') w q' w := by
    intro s q' hs hr w
    refine (hd w).bind (f := fun d => match Instr.findNow d k es' 0 with | some r => Pure.pure r | none => Instr.findAsking kt k es') ?_
    rw [hs]; exact hr w
  cases hf : Instr.findNow d k es 0 with
  | some p =>
    simp only [hf] at hm
    cases m with
    | zero => simp [quick] at hm
    | succ m =>
      obtain rfl : p = q := by simpa [quick, Pure.pure] using hm
      obtain ⟨q', a, b⟩ := findNow_rel r hf
      exact ⟨q', go (s := Pure.pure q') (by rw [a]) (fun w => .pure _ _), b⟩
  | none =>
    simp only [hf] at hm
    obtain ⟨q', a, b⟩ := findAsking_rel r hm
    exact ⟨q', go (by rw [findNow_none r hf]) a, b⟩
theorem find_rel {empty : Bool} {kt : TypeId} {k k' : Value} {es es' : List MapEntry} {q : Option (Nat × Value)} (r : MRel θ es es') (hk : VRel θ k k') (e : find P empty kt k es = some q) :
    k' = k ∧ (∀ w, Runs P (Instr.checkKey empty 10000 kt k) w () w) ∧ ∃ q', (∀ w, Runs P (Instr.findKey kt k es') w q' w) ∧ FRel θ q q' := by
  unfold find at e
  cases hf : flat k with
  | false => rw [hf] at e; simp at e
  | true =>
    rw [hf] at e
    simp only [cond_true] at e
    obtain ⟨u, m, ha, hb⟩ := quick_bind e
    exact ⟨flat_eq hf hk, ha, findKey_rel r hb⟩

theorem entries_spec (r : Rep P θ h w) {x x' : Value} (hx : VRel θ x x') {es : List MapEntry} (e : entriesOf h x = some es) :
    ∃ es' : Array MapEntry, MRel θ es es'.toList ∧ ((x' = .map none ∧ es' = #[]) ∨ ∃ b clock, x' = .map (some b) ∧ w.heap[b]? = some (.map es' clock)) := by
  unfold entriesOf at e
  split at e
  · obtain rfl := Option.some.inj e
    obtain rfl : x' = .map none := by cases hx; rfl
    exact ⟨#[], ⟨rfl, fun i a b c => by simp at c⟩, .inl ⟨rfl, rfl⟩⟩
  · rename_i m
    split at e
    · rename_i es0 clock hg
      obtain rfl := Option.some.inj e
      obtain ⟨es', ha, hr⟩ : ∃ es', w.heap[(θ.f m).blk]? = some (.map es' clock) ∧ MRel θ es0 es'.toList := (r.obj m _ hg).2.2
      obtain rfl : x' = .map (some (θ.f m).blk) := by cases hx; rfl
      exact ⟨es', hr, .inr ⟨_, _, rfl, ha⟩⟩
    · cases e
  · cases e
theorem zeroFlat_spec {t : TypeId} {z : Value} (e : zeroFlat P t = some z) : flat z = true ∧ ∀ w, Runs P (zeroValue t) w z w := by
  unfold zeroFlat at e
  cases hi : info P t with
  | none => rw [hi] at e; cases e
  | some i =>
    rw [hi] at e
    simp only at e
    cases hz : i.zero with
    | none => rw [hz] at e; cases e
    | some z0 =>
      rw [hz] at e
      simp only at e
      cases hf : flat z0 with
      | false => rw [hf] at e; simp at e
      | true =>
        rw [hf] at e
        obtain rfl : z0 = z := by simpa using e
        exact ⟨hf, fun w => run_zero hi hz⟩
theorem found_rel {ok b : Bool} {u u' : Value} (hu : VRel θ u u') : VRel θ (found ok u b) (if ok = true then .tuple #[u', .bool b] else u') := by
  cases ok with
  | true => exact .tuple' (.cons hu (.cons (.bool b) .nil))
  | false => exact hu
theorem lookup_ok (r : Rep P θ h w) {t : TypeId} {x x' k k' : Value} {ok : Bool} (hx : VRel θ x x') (hk : VRel θ k k') (e : aLookup P h t x k ok = some v) : Ok P θ h w (Instr.lookup t x' k' ok) v h := by
  unfold aLookup at e
  split at e
  · rename_i key elem es hu he
    obtain ⟨es', hr, hx'⟩ := entries_spec r hx he
    have hemp : es'.isEmpty = es.isEmpty := by
      have := hr.isEmpty
      simpa using this
    split at e
    · rename_i i u hz hf
      obtain ⟨rfl, hc, q', hq, hfr⟩ := find_rel hr hk hf
      obtain rfl := Option.some.inj e
      cases q' with
      | none => exact hfr.elim
      | some q' =>
        obtain ⟨j, u'⟩ := q'
        obtain ⟨rfl, hu'⟩ := hfr
        refine .keep r (v' := if ok = true then .tuple #[u', .bool true] else u') ((run_under hu).bind ?_) (found_rel hu')
        rw [← hemp] at hc
        rcases hx' with ⟨rfl, rfl⟩ | ⟨b, clock, rfl, hb⟩
        · exact Runs.bind (.pure _ _) ((hc w).bind ((hq w).bind (Runs.bind (.pure _ _) (.pure _ _))))
        · exact (Runs.getObj hb (fun _ _ _ => by simp)).bind (Runs.bind (.pure _ _) ((hc w).bind ((hq w).bind (Runs.bind (.pure _ _) (.pure _ _)))))
    · rename_i z hz hf
      obtain ⟨rfl, hc, q', hq, hfr⟩ := find_rel hr hk hf
      obtain rfl := Option.some.inj e
      obtain ⟨hzf, hzr⟩ := zeroFlat_spec hz
      cases q' with
      | some q' => exact hfr.elim
      | none =>
        refine .keep r (v' := if ok = true then .tuple #[z, .bool false] else z) ((run_under hu).bind ?_) (found_rel (flat_rel hzf))
        rw [← hemp] at hc
        rcases hx' with ⟨rfl, rfl⟩ | ⟨b, clock, rfl, hb⟩
        · exact Runs.bind (.pure _ _) ((hc w).bind ((hq w).bind ((hzr w).bind (Runs.bind (.pure _ _) (.pure _ _)))))
        · exact (Runs.getObj hb (fun _ _ _ => by simp)).bind (Runs.bind (.pure _ _) ((hc w).bind ((hq w).bind ((hzr w).bind (Runs.bind (.pure _ _) (.pure _ _))))))
    · cases e
  · cases e

theorem MRel.modify {es es' : List MapEntry} (r : MRel θ es es') (i : Nat) (k : Value) {u u' : Value} (hu : VRel θ u u') :
    MRel θ (es.modify i fun e => { e with key := k, val := u }) (es'.modify i fun e => { e with key := k, val := u' }) := by
  refine ⟨by simp [r.len], fun j e e' a b => ?_⟩
  rw [List.getElem?_modify] at a b
  cases h1 : es[j]? with
  | none => rw [h1] at a; simp at a
  | some x =>
    cases h2 : es'[j]? with
    | none => rw [h2] at b; simp at b
    | some x' =>
      obtain ⟨p, q, s⟩ := r.at_ j x x' h1 h2
      rw [h1] at a
      rw [h2] at b
      by_cases hij : i = j
      · simp only [hij, if_true, Option.map_some, Option.some.injEq, Option.map_eq_map] at a b
        subst a b
        exact ⟨rfl, q, hu⟩
      · simp only [hij, if_false, Option.map_some, Option.some.injEq, Option.map_eq_map] at a b
        subst a b
        exact ⟨p, q, s⟩
theorem MRel.snoc {es es' : List MapEntry} (r : MRel θ es es') (k : Value) (n : Nat) {u u' : Value} (hu : VRel θ u u') :
    MRel θ (es ++ [{ key := k, val := u, born := n }]) (es' ++ [{ key := k, val := u', born := n }]) := by
  refine ⟨by simp [r.len], fun j e e' a b => ?_⟩
  by_cases hj : j < es.length
  · rw [List.getElem?_append_left hj] at a
    rw [List.getElem?_append_left (by rw [← r.len]; exact hj)] at b
    exact r.at_ j e e' a b
  · rw [List.getElem?_append_right (by omega)] at a
    rw [List.getElem?_append_right (by rw [← r.len]; omega), ← r.len] at b
    by_cases h0 : j - es.length = 0
    · rw [h0] at a b
      simp at a b
      subst a b
      exact ⟨rfl, rfl, hu⟩
    · obtain ⟨d, hd⟩ : ∃ d, j - es.length = d + 1 := ⟨j - es.length - 1, by omega⟩
      rw [hd] at a
      simp at a
end
end Go.AM
end

section
namespace Go.AM
open Go
section
variable {P : Program} {θ : Env} {h h' : AHeap} {w : World} {v : Value}

theorem mapUpdate_ok (r : Rep P θ h w) {t : TypeId} {x x' k k' u u' : Value} (hx : VRel θ x x') (hk : VRel θ k k') (hu : VRel θ u u') (e : aMapUpdate P h t x k u = some (v, h')) :
    v = undef ∧ ∃ w', Runs P (Instr.mapUpdate t x' k' u') w () w' ∧ Rep P θ h' w' ∧ Goes θ h w θ h' w' := by
  unfold aMapUpdate at e
  split at e
  · rename_i key elem m hun
    split at e
    · rename_i es clock hg
      obtain ⟨es', ha, hr⟩ : ∃ es', w.heap[(θ.f m).blk]? = some (.map es' clock) ∧ MRel θ es es'.toList := (r.obj m _ hg).2.2
      have hbl := (r.obj m _ hg).2.1
      obtain rfl : x' = .map (some (θ.f m).blk) := by cases hx; rfl
      have hget : Runs P (getObj (θ.f m).blk) w (.map es' clock) w := .getObj ha (fun _ _ _ => by simp)
      split at e
      · rename_i i uo hf
        obtain ⟨rfl, hc, q', hq, hfr⟩ := find_rel hr hk hf
        cases hs : sameKey es i k' with
        | false => rw [hs] at e; simp at e
        | true =>
          rw [hs] at e
          simp only [cond_true, Option.some.injEq, Prod.mk.injEq] at e
          obtain ⟨rfl, rfl⟩ := e
          cases q' with
          | none => exact hfr.elim
          | some q' =>
            obtain ⟨j, u2⟩ := q'
            obtain ⟨rfl, _⟩ := hfr
            unfold sameKey at hs
            cases hi : es[i]? with
            | none => rw [hi] at hs; simp at hs
            | some x =>
              rw [hi] at hs
              simp only at hs
              have hlt : i < es'.toList.length := by rw [← hr.len]; exact (List.getElem?_eq_some_iff.1 hi).1
              obtain ⟨hk1, _, _⟩ := hr.at_ i x _ hi (List.getElem?_eq_getElem hlt)
              have hi' : es'[i]? = some es'.toList[i] := by
                rw [← List.getElem?_eq_getElem hlt]; simp
              let ob : Obj := .map (es'.modify i fun e => { e with key := k', val := u' }) clock
              obtain ⟨p, q⟩ := r.turn (w' := setB w (θ.f m).blk ob) (o' := .map (es.modify i fun e => { e with key := k', val := u }) clock) hg rfl rfl rfl rfl rfl (setB_size _ _ _) (fun c hc => setB_other w ob hc)
                ⟨_, setB_get w _ ob hbl, by rw [Array.toList_modify]; exact hr.modify i k' hu⟩
              refine ⟨rfl, _, ?_, p, q⟩
              refine (run_under hun).bind (hget.bind ((hc w).bind ((hq w).bind ?_)))
              refine Runs.bind (a := k') (w₁ := w) ?_ (.setObj ha (fun _ _ _ => by simp))
              simp only [hi', Option.map_some, Option.getD_some, hk1, Instr.keyThatStays, hs, if_true]
              exact .pure _ _
      · rename_i hf
        obtain ⟨rfl, hc, q', hq, hfr⟩ := find_rel hr hk hf
        simp only [Option.some.injEq, Prod.mk.injEq] at e
        obtain ⟨rfl, rfl⟩ := e
        cases q' with
        | some q' => exact hfr.elim
        | none =>
          let ob : Obj := .map (es'.push { key := k', val := u', born := clock }) (clock + 1)
          obtain ⟨p, q⟩ := r.turn (w' := setB w (θ.f m).blk ob) (o' := .map (es ++ [{ key := k', val := u, born := clock }]) (clock + 1)) hg rfl rfl rfl rfl rfl (setB_size _ _ _) (fun c hc => setB_other w ob hc)
            ⟨_, setB_get w _ ob hbl, by rw [Array.toList_push]; exact hr.snoc k' clock hu⟩
          refine ⟨rfl, _, ?_, p, q⟩
          exact (run_under hun).bind (hget.bind ((hc w).bind ((hq w).bind (.setObj ha (fun _ _ _ => by simp)))))
      · cases e
    · cases e
  · cases e

theorem LRel.set {l l' : List Value} (r : LRel θ l l') (i : Nat) {u u' : Value} (hu : VRel θ u u') : LRel θ (l.set i u) (l'.set i u') := by
  refine ⟨by simp [r.len], fun j a b x y => ?_⟩
  rw [List.getElem?_set] at x y
  by_cases hij : i = j
  · rw [if_pos hij] at x y
    by_cases hl : j < l.length
    · rw [if_pos (by omega)] at x
      rw [if_pos (by have := r.len; omega)] at y
      simp at x y
      subst x y
      exact hu
    · rw [if_neg (by omega)] at x; cases x
  · rw [if_neg hij] at x y; exact r.at_ j a b x y
theorem foldl_rel (off : Nat) : ∀ (l l' : List Value) (k : Nat) (cs ds : Array Value), LRel θ l l' → LRel θ cs.toList ds.toList →
    LRel θ ((l.zipIdx k).foldl (fun cs (c, j) => cs.setIfInBounds (off + j) c) cs).toList ((l'.zipIdx k).foldl (fun cs (c, j) => cs.setIfInBounds (off + j) c) ds).toList
  | [], l', k, cs, ds, r, s => by rw [r.nil_inv]; exact s
  | v :: l, l', k, cs, ds, r, s => by
    obtain ⟨v', m, rfl, hv, hm⟩ := r.cons_inv
    simp only [List.zipIdx_cons, List.foldl_cons]
    exact foldl_rel off l m (k + 1) _ _ hm (by rw [Array.toList_setIfInBounds, Array.toList_setIfInBounds]; exact s.set _ hv)
theorem fill_rel {place : Nat → Option (Nat × Nat)} : ∀ {ks : List Nat} {vs vs' : List Value} {cs ds out : Array Value}, LRel θ vs vs' → LRel θ cs.toList ds.toList → Instr.fill place cs (ks.zip vs) = some out →
    ∃ out', Instr.fill place ds (ks.zip vs') = some out' ∧ LRel θ out.toList out'.toList
  | [], vs, vs', cs, ds, out, r, s, e => by
    simp only [List.zip_nil_left, Instr.fill, Option.some.injEq] at e
    subst e
    exact ⟨ds, rfl, s⟩
  | k :: ks, [], vs', cs, ds, out, r, s, e => by
    rw [r.nil_inv]
    simp only [List.zip_nil_right, Instr.fill, Option.some.injEq] at e
    subst e
    exact ⟨ds, rfl, s⟩
  | k :: ks, u :: vs, vs', cs, ds, out, r, s, e => by
    obtain ⟨u', m, rfl, hu, hm⟩ := r.cons_inv
    simp only [List.zip_cons_cons, Instr.fill] at e ⊢
    cases hp : place k with
    | none => rw [hp] at e; cases e
    | some q =>
      obtain ⟨off, size⟩ := q
      rw [hp] at e
      simp only at e ⊢
      have hc := hu.cells
      have l1 : u'.cells.size = u.cells.size := by have := hc.len; simp at this; exact this.symm
      have l2 : ds.size = cs.size := by have := s.len; simp at this; exact this.symm
      rw [l1, l2]
      split at e
      · cases e
      · rename_i hn
        rw [if_neg hn]
        refine fill_rel hm ?_ e
        rw [← Array.foldl_toList, ← Array.foldl_toList, Array.toList_zipIdx, Array.toList_zipIdx]
        exact foldl_rel off _ _ 0 _ _ hc s

theorem parts_eq (a : Act) (ps : Array (Nat × Operand)) : (ps.map fun (i, x) => (i, a.eval x)).toList = (ps.toList.map (·.1)).zip ((ps.toList.map (·.2)).map a.eval) := by
  rw [Array.toList_map]
  induction ps.toList with
  | nil => rfl
  | cons p l ih => simp [ih]
theorem places_run {fs : List Field} : ∀ {pl : List (Nat × Nat)}, placesOf P fs = some pl → Runs P (fs.mapM fun f => do Pure.pure (f.offset, ← sizeOf f.type)) w pl w := by
  induction fs with
  | nil => intro pl e; obtain rfl : [] = pl := by simpa [placesOf] using e
           exact .pure _ _
  | cons f fs ih =>
    intro pl e
    simp only [placesOf] at e
    cases hi : info P f.type with
    | none => rw [hi] at e; cases e
    | some i =>
      rw [hi] at e
      simp only at e
      cases hp : placesOf P fs with
      | none => rw [hp] at e; cases e
      | some pl' =>
        rw [hp] at e
        obtain rfl : (f.offset, i.size) :: pl' = pl := by simpa using e
        rw [List.mapM_cons]
        exact Runs.bind ((run_size hi).bind (.pure _ _)) (Runs.bind (ih hp) (.pure _ _))

theorem build_ok (r : Rep P θ h w) {a : AAct} {act : Act} (ha : ActRel θ a act) {t : TypeId} {ps : Array (Nat × Operand)} {vs : List Value} (hv : evs a (ps.toList.map (·.2)) = some vs)
    (e : aBuild P t (ps.toList.map (·.1)) vs = some v) : Ok P θ h w (Instr.build t (ps.map fun (i, x) => (i, act.eval x))) v h := by
  have hr := ha.evs hv
  unfold aBuild at e
  cases hz : zeroOf P t with
  | none => rw [hz] at e; cases e
  | some q =>
    obtain ⟨z, n, m⟩ := q
    rw [hz] at e
    obtain ⟨i, zv, hi, hiz, rfl, hfl, hlen, hsz, _⟩ := zeroOf_spec hz
    simp only at e
    have hzr : LRel θ (zv.cells.toList.toArray).toList zv.cells.toList := by simpa using flats_rel (θ := θ) hfl
    split at e
    · rename_i fields hu
      cases hp : placesOf P fields.toList with
      | none => rw [hp] at e; cases e
      | some pl =>
        rw [hp] at e
        simp only [Option.map_eq_some_iff] at e
        obtain ⟨out, ho, rfl⟩ := e
        obtain ⟨out', ho', hro⟩ := fill_rel hr hzr ho
        refine .keep r (v' := .agg out') ((run_zero hi hiz).bind ((run_under hu).bind ?_)) (.agg' hro)
        refine Runs.bind (a := pl.toArray) (w₁ := w) ?_ ?_
        · rw [Array.mapM_eq_mapM_toList]
          exact (places_run hp).map
        · rw [parts_eq]
          have : (fun j : Nat => pl.toArray[j]?) = (fun j : Nat => pl[j]?) := by funext j; simp
          simp only [this, ho']
          exact .pure _ _
    · rename_i elem hu
      cases hs : sizeOfT P elem with
      | none => rw [hs] at e; cases e
      | some size =>
        rw [hs] at e
        simp only [Option.map_eq_some_iff] at e
        obtain ⟨out, ho, rfl⟩ := e
        obtain ⟨out', ho', hro⟩ := fill_rel hr hzr ho
        refine .keep r (v' := .agg out') ((run_zero hi hiz).bind ((run_under hu).bind ((run_sizeT hs).bind ?_))) (.agg' hro)
        rw [parts_eq]
        simp only [ho']
        exact .pure _ _
    · cases e

theorem buildSlice_ok (r : Rep P θ h w) {a : AAct} {act : Act} (ha : ActRel θ a act) {t : TypeId} {len : Nat} {ps : Array (Nat × Operand)} {vs : List Value} (hv : evs a (ps.toList.map (·.2)) = some vs)
    (e : aBuildSlice P h t len (ps.toList.map (·.1)) vs = some (v, h')) : Ok P θ h w (Instr.buildSlice t len (ps.map fun (i, x) => (i, act.eval x))) v h' := by
  have hr := ha.evs hv
  unfold aBuildSlice at e
  split at e
  · rename_i elem hu
    cases hz : zeroOf P elem with
    | none => rw [hz] at e; cases e
    | some q =>
      obtain ⟨z, size, m⟩ := q
      rw [hz] at e
      obtain ⟨i, zv, hi, hiz, rfl, hfl, hlen, hsz, _⟩ := zeroOf_spec hz
      simp only at e
      cases hb0 : (Nat.blt (2 ^ 24) (len * size) || !Nat.blt len OPEN) with
      | true => rw [hb0] at e; simp at e
      | false =>
        rw [hb0] at e
        simp only [cond_false] at e
        simp only [Bool.or_eq_false_iff, Bool.not_eq_false'] at hb0
        obtain ⟨hb, hbo⟩ := hb0
        have hle : ¬ len * size > 2 ^ 24 := fun hh => by
          have := Nat.ble_eq_true_of_le (show 2 ^ 24 + 1 ≤ len * size by omega)
          rw [show Nat.blt (2 ^ 24) (len * size) = true from this] at hb; cases hb
        split at e
        · cases e
        · rename_i cells hc
          simp only [Option.some.injEq, Prod.mk.injEq] at e
          obtain ⟨rfl, rfl⟩ := e
          -- the zero cells that the fill begins with
          let Z : Array Value := if len * size = 0 then #[] else zv.cells
          have hbase : (Array.range (len * size)).map (fun k => zv.cells.toList.toArray[k % zv.cells.toList.toArray.size]!) = (Array.range (len * size)).map (fun k => Z[k % Z.size]!) := by
            by_cases h0 : len * size = 0
            · rw [h0]; simp
            · simp only [Z, if_neg h0]
          rw [hbase] at hc
          have hzall : ((Array.range (len * size)).map (fun k => Z[k % Z.size]!)).toList.all flat = true := by
            rw [List.all_eq_true]
            intro u hu
            simp only [Array.toList_map, List.mem_map] at hu
            obtain ⟨k, hk, rfl⟩ := hu
            have hk' : k < len * size := by simpa using hk
            have h0 : len * size ≠ 0 := by omega
            have hpos : 0 < zv.cells.size := by
              have : size ≠ 0 := fun e => h0 (by rw [e]; simp)
              simp at hlen; omega
            simp only [Z, if_neg h0]
            rw [getElem!_pos zv.cells _ (Nat.mod_lt _ hpos)]
            exact (List.all_eq_true.1 hfl) _ (Array.getElem_mem_toList _)
          obtain ⟨out', ho', hro⟩ := fill_rel (θ := θ) hr (flats_rel hzall) hc
          have hsize : cells.size = len * size := by
            have key : ∀ {ps : List (Nat × Value)} {cs out : Array Value} {place : Nat → Option (Nat × Nat)}, Instr.fill place cs ps = some out → out.size = cs.size := by
              intro ps
              induction ps with
              | nil => intro cs out place e; simp only [Instr.fill, Option.some.injEq] at e; rw [e]
              | cons p ps ih =>
                intro cs out place e
                obtain ⟨k, u⟩ := p
                simp only [Instr.fill] at e
                split at e
                · cases e
                · split at e
                  · cases e
                  · rw [ih e, ← Array.foldl_toList]
                    have : ∀ (l : List (Value × Nat)) (cs : Array Value) (off : Nat), (l.foldl (fun cs (c, j) => cs.setIfInBounds (off + j) c) cs).size = cs.size := by
                      intro l
                      induction l with
                      | nil => intro cs off; rfl
                      | cons x l ih2 => intro cs off; simp only [List.foldl_cons]; rw [ih2]; simp
                    exact this _ _ _
            rw [key hc]; simp
          obtain ⟨w', θ', x, y, y2, d, f, g⟩ := newRow_ok r (n := len * size) (z := []) (t := Tr.nil.setAll 0 cells.toList) (elem := elem) (arr := out') (by have := hro.len; simp at this; omega)
            (fun k u e => by
              have : len * size = cells.toList.length := by simp [hsize]
              rw [this] at e
              obtain ⟨u', p, q⟩ := hro.get (at_list _ _ _ _ e)
              exact ⟨u', by simpa using p, q⟩)
          have hlo : len < OPEN := Nat.le_of_ble_eq_true hbo
          refine ⟨_, w', θ', ?_, sliceTo_rel len len hlo d f g, y, y2⟩
          refine (run_under hu).bind ?_
          refine Runs.bind (run_size hi) ?_
          rw [hsz, if_neg hle]
          have fin : Runs P (match Instr.fill (fun i => some (i * size, size)) ((Array.range (len * size)).map (fun k => Z[k % Z.size]!)) (ps.map fun (i, x) => (i, act.eval x)).toList with
              | some cells => do
                let a ← newRow elem cells
                Pure.pure (Value.slice (some a) len len)
              | x => stuck "buildSlice: a part of the wrong size") w (.slice (some ⟨w.heap.size, 0, none⟩) len len) w' := by
            rw [parts_eq]
            simp only [ho']
            exact Runs.bind x (.pure _ _)
          by_cases h0 : len * size = 0
          · simp only [h0, if_true]
            simp only [Z, h0, if_true] at fin
            exact Runs.bind (.pure _ _) fin
          · simp only [if_neg h0]
            simp only [Z, if_neg h0] at fin
            exact (run_zero hi hiz).bind (Runs.bind (.pure _ _) fin)
  · cases e
end
end Go.AM
end

section
namespace Go.AM
open Go
section
variable {P : Program} {θ : Env} {h h' : AHeap} {w : World} {v : Value}

theorem blt_true {m n : Nat} (e : Nat.blt m n = true) : m < n := Nat.le_of_ble_eq_true e
theorem blt_false {m n : Nat} (e : Nat.blt m n = false) : ¬ m < n := fun hh => by
  rw [show Nat.blt m n = true from Nat.ble_eq_true_of_le hh] at e; cases e
theorem beq_false {m n : Nat} (e : Nat.beq m n = false) : m ≠ n := fun hh => by subst hh; simp at e

theorem askRoom_run (n : Nat) : Runs P (askRoom n) w () w := by
  unfold askRoom
  split
  · rfl
  · exact .pure _ _
theorem makeSlice_ok (r : Rep P θ h w) {t : TypeId} {x x' y y' : Value} (hx : VRel θ x x') (hy : VRel θ y y') (e : aMakeSlice P h t x y = some (v, h')) : Ok P θ h w (Instr.makeSlice t x' y') v h' := by
  unfold aMakeSlice at e
  split at e
  · rename_i elem k len k2 cap hu
    obtain rfl := int_inv hx
    obtain rfl := int_inv hy
    cases hz : zeroOf P elem with
    | none => rw [hz] at e; cases e
    | some q =>
      obtain ⟨z, size, bytes⟩ := q
      rw [hz] at e
      obtain ⟨i, zv, hi, hiz, rfl, hfl, hlen, hsz, hby⟩ := zeroOf_spec hz
      simp only [forceN_eq] at e
      generalize hL : IntKind.i64.wrap len = l at e
      generalize hC : IntKind.i64.wrap cap = c at e
      cases hb : (decide (0 ≤ l) && decide (l ≤ c) && decide ((bytes : Int) * c ≤ 2 ^ 48) && Nat.blt c.toNat OPEN) with
      | false => rw [hb] at e; simp at e
      | true =>
        rw [hb] at e
        simp only [cond_true, Option.some.injEq, Prod.mk.injEq] at e
        obtain ⟨rfl, rfl⟩ := e
        simp only [Bool.and_eq_true, decide_eq_true_eq] at hb
        obtain ⟨⟨⟨h0, h1⟩, h2⟩, h3⟩ := hb
        let Z : Array Value := if c.toNat * size = 0 then #[] else zv.cells
        obtain ⟨w', θ', a, b, b2, d, f, g⟩ := newRow_ok r (n := c.toNat * size) (z := zv.cells.toList) (t := .nil) (elem := elem) (arr := (Array.range (c.toNat * size)).map (fun k => Z[k % Z.size]!)) (by simp)
          (fun k u e => by
            obtain ⟨hk, hu⟩ := at_zero e
            have h0 : c.toNat * size ≠ 0 := by omega
            have hpos : 0 < zv.cells.size := by
              have : size ≠ 0 := fun e => h0 (by rw [e]; simp)
              simp at hlen; omega
            obtain ⟨u', p, q⟩ := (flats_rel (θ := θ) hfl).get hu
            have hsz' : zv.cells.toList.length = zv.cells.size := by simp
            have e1 : u' = zv.cells[k % zv.cells.size]! := by
              rw [getElem!_pos zv.cells _ (Nat.mod_lt _ hpos)]
              have hq : zv.cells.toList[k % zv.cells.toList.length]? = some u' := p
              rw [hsz'] at hq
              have : zv.cells[k % zv.cells.size]? = some u' := by simpa using hq
              rw [Array.getElem?_eq_getElem (Nat.mod_lt _ hpos)] at this
              exact (Option.some.inj this).symm
            refine ⟨u', ?_, q⟩
            simp only [Z, if_neg h0]
            rw [Array.getElem?_map, Array.getElem?_eq_getElem (by simpa using hk)]
            simp [e1])
        refine ⟨_, w', θ', ?_, sliceTo_rel l.toNat c.toNat (blt_true h3) d f g, b, b2⟩
        have fin : Runs P (do
            let a ← newRow elem ((Array.range (c.toNat * size)).map (fun k => Z[k % Z.size]!))
            Pure.pure (Value.slice (some a) l.toNat c.toNat)) w (.slice (some ⟨w.heap.size, 0, none⟩) l.toNat c.toNat) w' := Runs.bind a (.pure _ _)
        refine (run_under hu).bind (Runs.bind (.pure _ _) (Runs.bind (.pure _ _) ((run_info hi).bind ?_)))
        simp only [hL, hC, hby]
        have hno : (decide (c < 0) || decide ((bytes : Int) * c > 2 ^ 48) || decide (l < 0) || decide (l > c)) = false := by
          simp only [Bool.or_eq_false_iff, decide_eq_false_iff_not]
          refine ⟨⟨⟨by omega, by omega⟩, by omega⟩, by omega⟩
        have hno' : ¬ ((decide (c < 0) || decide ((bytes : Int) * c > 2 ^ 48) || decide (l < 0) || decide (l > c)) = true) := by rw [hno]; simp
        rw [if_neg hno']
        refine Runs.bind (a := ()) (w₁ := w) (askRoom_run _) ((run_size hi).bind ?_)
        rw [hsz]
        by_cases hn : c.toNat * size = 0
        · simp only [hn, if_true]
          simp only [Z, hn, if_true] at fin
          exact Runs.bind (.pure _ _) fin
        · simp only [if_neg hn]
          simp only [Z, if_neg hn] at fin
          exact (run_zero hi hiz).bind (Runs.bind (.pure _ _) fin)
  · cases e

/-- A bound, and its value. -/
def OI : Option Int → Option Value → Prop
  | none, none => True
  | some n, some (.int _ m) => m = n
  | _, _ => False
theorem optI_rel {a : AAct} {act : Act} (ha : ActRel θ a act) {x : Option Operand} {l : Option Int} (e : optI a x = some l) : OI l (x.map act.eval) := by
  unfold optI at e
  cases x with
  | none => obtain rfl : none = l := by simpa using e
            trivial
  | some x =>
    simp only at e
    split at e
    · rename_i k n hx
      obtain rfl := Option.some.inj e
      rw [Option.map_some, int_inv (ha.ev hx)]
      rfl
    · cases e
theorem bound_run {x : Value} {n : Int} {y : Nat} {code : BoundsCode} (hx : OI (some n) (some x)) (h0 : 0 ≤ n) (h1 : n ≤ y) : Runs P (Instr.sliceBound x y code) w n.toNat w := by
  cases x with
  | int k m =>
    obtain rfl : m = n := hx
    refine Runs.bind (.pure _ _) ?_
    simp only [h0, h1, and_self, if_true]
    exact .pure _ _
  | _ => exact hx.elim
theorem bounds_ok {isSlice : Bool} {len cap cap' known : Nat} {lo hi mx : Option Int} {low high max : Option Value} {i j k : Nat} (e : sliceBounds len cap known lo hi mx = some (i, j, k))
    (rl : OI lo low) (rh : OI hi high) (rm : OI mx max) (hk : known ≤ cap') (hl : len ≤ cap') :
    ∃ m', Runs P (Instr.sliceBounds isSlice len cap' low high max) w (i, j, m') w ∧ i ≤ j ∧ j ≤ m' ∧ m' ≤ cap' ∧ (mx = none → k = cap ∧ m' = cap') ∧ (mx.isSome = true → k = m' ∧ k < OPEN) := by
  unfold sliceBounds at e
  -- the low bound, once the others are known
  have low_ok : ∀ (h m m' : Nat), lowOf h m lo = some (i, j, k) →
      j = h ∧ k = m ∧ i ≤ j ∧ ∀ (code : BoundsCode), Runs P (do
        let l ← match low with | some v => Instr.sliceBound v h code | none => Pure.pure 0
        Pure.pure (l, h, m')) w (i, j, m') w := by
    intro h m m' e
    unfold lowOf at e
    cases lo with
    | none =>
      cases low with
      | some _ => exact rl.elim
      | none =>
        simp only [Option.some.injEq, Prod.mk.injEq] at e
        obtain ⟨rfl, rfl, rfl⟩ := e
        exact ⟨rfl, rfl, Nat.zero_le _, fun code => Runs.bind (.pure _ _) (.pure _ _)⟩
    | some n =>
      cases low with
      | none => exact rl.elim
      | some x =>
        simp only at e
        cases hb : (decide (0 ≤ n) && decide (n ≤ (h : Int))) with
        | false => rw [hb] at e; simp at e
        | true =>
          rw [hb] at e
          simp only [cond_true, Option.some.injEq, Prod.mk.injEq] at e
          obtain ⟨rfl, rfl, rfl⟩ := e
          simp only [Bool.and_eq_true, decide_eq_true_eq] at hb
          exact ⟨rfl, rfl, by omega, fun code => Runs.bind (bound_run rl hb.1 hb.2) (.pure _ _)⟩
  cases mx with
  | none =>
    cases max with
    | some _ => exact rm.elim
    | none =>
      simp only at e
      cases hi with
      | none =>
        cases high with
        | some _ => exact rh.elim
        | none =>
          simp only at e
          obtain ⟨rfl, rfl, hij, hr⟩ := low_ok len cap cap' e
          refine ⟨cap', ?_, hij, hl, Nat.le_refl _, fun _ => ⟨rfl, rfl⟩, fun x => by cases x⟩
          refine Runs.bind (.pure _ _) (Runs.bind (.pure _ _) ?_)
          cases low with
          | none => exact hr .index
          | some x => exact hr _
      | some n =>
        cases high with
        | none => exact rh.elim
        | some y =>
          simp only at e
          cases hb : (decide (0 ≤ n) && decide (n ≤ (known : Int))) with
          | false => rw [hb] at e; simp at e
          | true =>
            rw [hb] at e
            simp only [cond_true] at e
            simp only [Bool.and_eq_true, decide_eq_true_eq] at hb
            obtain ⟨rfl, rfl, hij, hr⟩ := low_ok n.toNat cap cap' e
            refine ⟨cap', ?_, hij, by omega, Nat.le_refl _, fun _ => ⟨rfl, rfl⟩, fun x => by cases x⟩
            refine Runs.bind (.pure _ _) (Runs.bind (bound_run rh hb.1 (by omega)) ?_)
            cases low with
            | none => exact hr .index
            | some x => exact hr _
  | some q =>
    cases max with
    | none => exact rm.elim
    | some z =>
      simp only at e
      cases hb : (decide (0 ≤ q) && decide (q ≤ (known : Int)) && Nat.blt q.toNat OPEN) with
      | false => rw [hb] at e; simp at e
      | true =>
        rw [hb] at e
        simp only [cond_true] at e
        simp only [Bool.and_eq_true, decide_eq_true_eq] at hb
        obtain ⟨⟨hb1, hb2⟩, hb3⟩ := hb
        cases hi with
        | none => simp at e
        | some n =>
          cases high with
          | none => exact rh.elim
          | some y =>
            simp only at e
            cases hc : (decide (0 ≤ n) && decide (n ≤ (q.toNat : Int))) with
            | false => rw [hc] at e; simp at e
            | true =>
              rw [hc] at e
              simp only [cond_true] at e
              simp only [Bool.and_eq_true, decide_eq_true_eq] at hc
              obtain ⟨rfl, rfl, hij, hr⟩ := low_ok n.toNat q.toNat q.toNat e
              refine ⟨q.toNat, ?_, hij, by omega, by omega, (fun x => by cases x), fun _ => ⟨rfl, blt_true hb3⟩⟩
              refine Runs.bind (bound_run rm hb1 (by omega)) (Runs.bind (bound_run rh hc.1 hc.2) ?_)
              cases low with
              | none => exact hr .index
              | some x => exact hr _
end
end Go.AM
end

section
namespace Go.AM
open Go
section
variable {P : Program} {θ : Env} {h h' : AHeap} {w : World} {v : Value}

theorem knownCap_closed {b off cap size known : Nat} (hc : cap < OPEN) (e : knownCap P h b off cap size = some known) : known = cap := by
  unfold knownCap at e
  rw [show Nat.beq cap OPEN = false from by cases hb : Nat.beq cap OPEN; rfl; exact absurd (Nat.eq_of_beq_eq_true hb) (Nat.ne_of_lt hc)] at e
  simpa using e.symm
/-- What is known of a block whose capacity is not. -/
theorem knownCap_open (r : Rep P θ h w) {b off size known : Nat} (e : knownCap P h b off OPEN size = some known) :
    ∃ c arr, h.get b = some (.cells c) ∧ c.opn = true ∧ c.ro = false ∧ (θ.f b).esz = size ∧ 1 ≤ size ∧ known = (c.n - off) / size ∧ w.heap[(θ.f b).blk]? = some (.cells arr c.elem (0, 0)) ∧ arr.size = (θ.f b).room ∧ (θ.f b).sh + c.n ≤ (θ.f b).room ∧ sizeOfT P c.elem = some size := by
  unfold knownCap at e
  simp only [Nat.beq_refl, cond_true] at e
  cases hg : h.get b with
  | none => rw [hg] at e; cases e
  | some o =>
    rw [hg] at e
    cases o with
    | cells c =>
      simp only at e
      cases hs : sizeOfT P c.elem with
      | none => rw [hs] at e; cases e
      | some s =>
        rw [hs] at e
        simp only at e
        cases hb : (c.opn && !c.ro && Nat.beq s size && Nat.ble 1 size) with
        | false => rw [hb] at e; simp at e
        | true =>
          rw [hb] at e
          simp only [cond_true, Option.some.injEq] at e
          simp only [Bool.and_eq_true, Bool.not_eq_true'] at hb
          obtain ⟨⟨⟨ho, hro⟩, hss⟩, h1⟩ := hb
          obtain rfl := Nat.eq_of_beq_eq_true hss
          have hc : CRel P θ (θ.f b) c w := (r.obj b _ hg).2.2
          obtain ⟨arr, ha, hl, hop⟩ := hc.wr hro
          obtain ⟨hr, i, hi, he⟩ := hop ho
          obtain ⟨i', hi', hsz⟩ := sizeOfT_spec hs
          rw [info_eq] at hi'
          rw [hi] at hi'
          obtain rfl := Option.some.inj hi'
          exact ⟨c, arr, rfl, ho, hro, by omega, Nat.le_of_ble_eq_true h1, e.symm, ha, hr, by omega, hs⟩
    | _ => simp at e
/-- The sure capacity is at most the real one. -/
theorem known_le {n off size sh room c : Nat} (h1 : 1 ≤ size) (hn : sh + n ≤ room) (hr : off + sh + c * size = room) : (n - off) / size ≤ c := by
  have : n - off ≤ c * size := by omega
  calc (n - off) / size ≤ (c * size) / size := Nat.div_le_div_right this
    _ = c := Nat.mul_div_cancel c (by omega)

theorem slice_ok (r : Rep P θ h w) {t : TypeId} {x x' : Value} {l u m : Option Int} {low high max : Option Value} (hx : VRel θ x x') (rl : OI l low) (rh : OI u high) (rm : OI m max)
    (e : aSlice P h t x l u m = some v) : Ok P θ h w (Instr.sliceAt t x' low high max) v h := by
  unfold aSlice at e
  split at e
  · rename_i s hu
    obtain rfl : x' = .string s := scalar_eq rfl hx
    split at e
    · rename_i i j k hb
      obtain rfl := Option.some.inj e
      cases max with
      | some _ => exact rm.elim
      | none =>
        obtain ⟨m', hr, _⟩ := bounds_ok (P := P) (w := w) (isSlice := false) (cap' := s.size) (max := none) hb rl rh trivial (Nat.le_refl _) (Nat.le_refl _)
        refine .keep r (v' := .string (s.extract i j)) ((run_under hu).bind ?_) (.string _)
        refine (run_under hu).bind ?_
        exact hr.bind (.pure _ _)
    · cases e
  · rename_i elem len cap hu
    obtain rfl := sliceNil_inv hx
    split at e
    · rename_i size i j k hs hb
      cases hlc : Nat.ble len cap with
      | false => rw [hlc] at e; simp at e
      | true =>
        rw [hlc] at e
        obtain rfl : Value.slice none (j - i) (k - i) = v := by simpa using e
        obtain ⟨m', hr, hij, hjm, hmc, hn, hso⟩ := bounds_ok (P := P) (w := w) (isSlice := true) (cap' := cap) hb rl rh rm (Nat.le_refl _) (Nat.le_of_ble_eq_true hlc)
        have hk : k = m' := by
          cases m with
          | none => obtain ⟨a, b⟩ := hn rfl; omega
          | some _ => exact (hso rfl).1
        subst hk
        refine .keep r (v' := .slice none (j - i) (k - i)) ((run_under hu).bind ((run_under hu).bind (hr.bind ((run_sizeT hs).bind ?_)))) (.slice0 _ _)
        simp only [Option.map_none, ite_self]
        exact .pure _ _
    · cases e
  · rename_i elem b off len cap hu
    cases hs : sizeOfT P elem with
    | none => rw [hs] at e; cases e
    | some size =>
      rw [hs] at e
      simp only at e
      cases hkc : knownCap P h b off cap size with
      | none => rw [hkc] at e; cases e
      | some known =>
        rw [hkc] at e
        simp only at e
        split at e
        · cases e
        · rename_i i j k hb
          cases hlc : Nat.ble len cap with
          | false => rw [hlc] at e; simp at e
          | true =>
            rw [hlc] at e
            obtain rfl : sliceV b off size i j k = v := by simpa using e
            have go : ∀ {a : Addr} {cap' : Nat} {v' : Value} {m' : Nat}, Runs P (Instr.sliceBounds true len cap' low high max) w (i, j, m') w →
                v' = .slice (some (if m' = i then a else a.add (i * size))) (j - i) (m' - i) → Runs P (Instr.sliceAt t (.slice (some a) len cap') low high max) w v' w := by
              intro a cap' v' m' hr hv
              subst hv
              refine (run_under hu).bind ((run_under hu).bind (hr.bind ((run_sizeT hs).bind ?_)))
              by_cases hm : m' = i
              · simp only [hm, if_true]; exact .pure _ _
              · simp only [if_neg hm, Option.map_some]; exact .pure _ _
            have closed : ∀ {k : Nat}, k < OPEN → sliceV b off size i j k = .slice (some ⟨b, if k = i then off else off + i * size, none⟩) (j - i) (k - i) := by
              intro k hk
              unfold sliceV
              rw [show Nat.beq k OPEN = false from by cases hbb : Nat.beq k OPEN; rfl; exact absurd (Nat.eq_of_beq_eq_true hbb) (Nat.ne_of_lt hk)]
              by_cases hki : k = i
              · subst hki; simp
              · rw [show Nat.beq k i = false from by cases hbb : Nat.beq k i; rfl; exact absurd (Nat.eq_of_beq_eq_true hbb) hki, if_neg hki]; rfl
            have closedRel : ∀ {k : Nat}, k < OPEN → b < θ.nx → VRel θ (sliceV b off size i j k) (.slice (some (if k = i then (⟨(θ.f b).blk, off + (θ.f b).sh, none⟩ : Addr) else (⟨(θ.f b).blk, off + (θ.f b).sh, none⟩ : Addr).add (i * size))) (j - i) (k - i)) := by
              intro k hk hbx
              rw [closed hk, add_off]
              by_cases hki : k = i
              · rw [if_pos hki, if_pos hki]; exact .slice hbx (by omega)
              · rw [if_neg hki, if_neg hki]
                have := VRel.slice (θ := θ) (b := b) (o := off + i * size) (n := j - i) (c := k - i) hbx (by omega)
                rwa [show off + i * size + (θ.f b).sh = off + (θ.f b).sh + i * size by omega] at this
            cases hx with
            | slice hbx hc =>
              obtain rfl := knownCap_closed hc hkc
              obtain ⟨m', hr, hij, hjm, hmc, hn, hso⟩ := bounds_ok (P := P) (w := w) (isSlice := true) (cap' := known) hb rl rh rm (Nat.le_refl _) (Nat.le_of_ble_eq_true hlc)
              have hk : k = m' ∧ k < OPEN := by
                cases m with
                | none => obtain ⟨a, b⟩ := hn rfl; exact ⟨by omega, by omega⟩
                | some _ => exact hso rfl
              obtain ⟨rfl, hko⟩ := hk
              exact .keep r (go hr rfl) (closedRel hko hbx)
            | sliceZ hbx =>
              obtain rfl := knownCap_closed (cap := 0) (by decide) hkc
              obtain ⟨m', hr, hij, hjm, hmc, hn, hso⟩ := bounds_ok (P := P) (w := w) (isSlice := true) (cap' := 0) hb rl rh rm (Nat.le_refl _) (Nat.le_refl _)
              have hk : k = 0 ∧ m' = 0 ∧ i = 0 ∧ j = 0 := by
                cases m with
                | none => obtain ⟨a, b⟩ := hn rfl; exact ⟨a, b, by omega, by omega⟩
                | some _ => have := hso rfl; exact ⟨by omega, by omega, by omega, by omega⟩
              obtain ⟨rfl, rfl, rfl, rfl⟩ := hk
              refine .keep r (go hr rfl) ?_
              rw [closed (by decide)]
              exact .sliceZ hbx
            | sliceE hbx hrm =>
              obtain ⟨c, arr, hg, ho, hro, hes, h1, hkn, ha, har, hle, hse⟩ := knownCap_open r hkc
              have hk0 : known = 0 := by rw [hkn, show c.n - off = 0 by omega]; simp
              obtain ⟨m', hr, hij, hjm, hmc, hn, hso⟩ := bounds_ok (P := P) (w := w) (isSlice := true) (cap' := 0) hb rl rh rm (by omega) (Nat.le_refl _)
              have hk : m' = 0 ∧ i = 0 ∧ j = 0 := ⟨by omega, by omega, by omega⟩
              obtain ⟨rfl, rfl, rfl⟩ := hk
              refine .keep r (go hr rfl) ?_
              cases m with
              | none =>
                obtain ⟨rfl, _⟩ := hn rfl
                unfold sliceV
                simp only [Nat.beq_refl, cond_true, Nat.zero_mul, Nat.add_zero, if_true]
                exact .sliceE hbx hrm
              | some _ =>
                obtain ⟨rfl, hko⟩ := hso rfl
                rw [closed hko]
                exact .sliceZ hbx
            | sliceO hbx hn' hrm =>
              rename_i c'
              obtain ⟨c, arr, hg, ho, hro, hes, h1, hkn, ha, har, hle, hse⟩ := knownCap_open r hkc
              have hkl : known ≤ c' := by rw [hkn]; exact known_le h1 (by omega) (by rw [← hes]; exact hrm)
              obtain ⟨m', hr, hij, hjm, hmc, hn, hso⟩ := bounds_ok (P := P) (w := w) (isSlice := true) (cap' := c') hb rl rh rm hkl hn'
              cases m with
              | none =>
                obtain ⟨rfl, rfl⟩ := hn rfl
                refine .keep r (go hr rfl) ?_
                unfold sliceV
                simp only [Nat.beq_refl, cond_true]
                by_cases hi : m' = i
                · subst hi
                  obtain rfl : j = m' := by omega
                  rw [if_pos rfl, Nat.sub_self]
                  exact .sliceE hbx (by rw [← hes]; omega)
                · rw [if_neg hi, add_off]
                  have hmul : i * (θ.f b).esz + (m' - i) * (θ.f b).esz = m' * (θ.f b).esz := by
                    rw [← Nat.add_mul]; congr 1; omega
                  have := VRel.sliceO (θ := θ) (b := b) (o := off + i * size) (n := j - i) (c := m' - i) hbx (by omega) (by rw [← hes]; omega)
                  rwa [show off + i * size + (θ.f b).sh = off + (θ.f b).sh + i * size by omega] at this
              | some _ =>
                obtain ⟨rfl, hko⟩ := hso rfl
                exact .keep r (go hr rfl) (closedRel hko hbx)
  · rename_i n elem b off hu
    obtain ⟨rfl, hbx⟩ := ptr_inv hx
    cases hs : sizeOfT P elem with
    | none => rw [hs] at e; cases e
    | some size =>
      rw [hs] at e
      simp only at e
      split at e
      · cases e
      · rename_i i j k hb
        cases hlc : Nat.blt n OPEN with
        | false => rw [hlc] at e; simp at e
        | true =>
          rw [hlc] at e
          simp only [cond_true, Option.some.injEq] at e
          subst e
          obtain ⟨m', hr, hij, hjm, hmc, hn, hso⟩ := bounds_ok (P := P) (w := w) (isSlice := false) (cap' := n) hb rl rh rm (Nat.le_refl _) (Nat.le_refl _)
          have hno := blt_true hlc
          have hk : k = m' := by
            cases m with
            | none => obtain ⟨a, b⟩ := hn rfl; omega
            | some _ => exact (hso rfl).1
          subst hk
          refine .keep r (v' := .slice (some (if k = i then (⟨(θ.f b).blk, off + (θ.f b).sh, none⟩ : Addr) else (⟨(θ.f b).blk, off + (θ.f b).sh, none⟩ : Addr).add (i * size))) (j - i) (k - i)) ?_ ?_
          · refine (run_under hu).bind (Runs.bind (.pure _ _) (hr.bind ((run_sizeT hs).bind ?_)))
            exact .pure _ _
          · rw [add_off]
            by_cases hki : k = i
            · subst hki; simp only [Nat.beq_refl, cond_true, if_true]; exact .slice hbx (by omega)
            · rw [show Nat.beq k i = false from by cases hbb : Nat.beq k i; rfl; exact absurd (Nat.eq_of_beq_eq_true hbb) hki, if_neg hki]
              have := VRel.slice (θ := θ) (b := b) (o := off + i * size) (n := j - i) (c := k - i) hbx (by omega)
              rwa [show off + i * size + (θ.f b).sh = off + (θ.f b).sh + i * size by omega] at this
  · cases e
end
end Go.AM
end

section
namespace Go.AM
open Go
section
variable {P : Program} {θ : Env} {h h' : AHeap} {w : World} {v : Value}

/-- What an operation does, as the machine sees it. -/
def NextOk (P : Program) (θ : Env) (h : AHeap) (w : World) (s : Sem Next) (v : Value) (h' : AHeap) : Prop :=
  ∃ v' w' θ', (Runs P s w (.value v') w' ∨ (Runs P s w .skip w' ∧ v' = undef)) ∧ VRel θ' v v' ∧ Rep P θ' h' w' ∧ Goes θ h w θ' h' w'
theorem Ok.next {s : Sem Value} (k : Ok P θ h w s v h') : NextOk P θ h w (do Pure.pure (.value (← s))) v h' := by
  obtain ⟨v', w', θ', a, b⟩ := k
  exact ⟨v', w', θ', .inl (a.bind (.pure _ _)), b⟩
theorem unit_next {s : Sem Unit} {w' : World} (hr : Runs P s w () w') (hrep : Rep P θ h' w') (hg : Goes θ h w θ h' w') : NextOk P θ h w (do s; Pure.pure .skip) undef h' :=
  ⟨undef, w', θ, .inr ⟨Runs.bind hr (.pure _ _), rfl⟩, .undef, hrep, hg⟩

theorem on1_spec {β : Type} {x : Option Value} {k : Value → Option β} {b : β} (e : on1 x k = some b) : ∃ u, x = some u ∧ k u = some b := by
  cases x with
  | none => simp [on1] at e
  | some u => exact ⟨u, rfl, e⟩
theorem on2_spec {β : Type} {x y : Option Value} {k : Value → Value → Option β} {b : β} (e : on2 x y k = some b) : ∃ u t, x = some u ∧ y = some t ∧ k u t = some b := by
  cases x with
  | none => simp [on2] at e
  | some u => cases y with
    | none => simp [on2] at e
    | some t => exact ⟨u, t, rfl, rfl, e⟩
theorem on3_spec {β : Type} {x y z : Option Value} {k : Value → Value → Value → Option β} {b : β} (e : on3 x y z k = some b) : ∃ u t s, x = some u ∧ y = some t ∧ z = some s ∧ k u t s = some b := by
  cases x with
  | none => simp [on3] at e
  | some u =>
    obtain ⟨t, s, p, q, r⟩ := on2_spec (show on2 y z (k u) = some b from e)
    exact ⟨u, t, s, rfl, p, q, r⟩
theorem onL_spec {β : Type} {x : Option (List Value)} {k : List Value → Option β} {b : β} (e : onL x k = some b) : ∃ u, x = some u ∧ k u = some b := by
  cases x with
  | none => simp [onL] at e
  | some u => exact ⟨u, rfl, e⟩
theorem keep_spec {q : Option Value} (e : keep h q = some (v, h')) : q = some v ∧ h' = h := by
  cases q with
  | none => simp [keep] at e
  | some u =>
    simp only [keep, Option.some.injEq, Prod.mk.injEq] at e
    exact ⟨by rw [e.1], e.2.symm⟩

theorem nilCheck_ok (r : Rep P θ h w) {x x' : Value} (hx : VRel θ x x') (e : aNilCheck x = some v) (o : Oper) (ρ : Operand → Value) (y : Operand) (ho : o.op = .nilCheck y) (hy : ρ y = x') : NextOk P θ h w (execOp ρ o) v h := by
  have key : execOp ρ o = Pure.pure (.value x') ∧ v = x := by
    unfold aNilCheck at e
    simp only [execOp, ho, hy]
    split at e
    · obtain rfl := Option.some.inj e
      cases hx
      exact ⟨rfl, rfl⟩
    · obtain rfl := Option.some.inj e
      obtain ⟨u', c', rfl, _⟩ := hx.func_inv
      exact ⟨rfl, rfl⟩
    · obtain rfl := Option.some.inj e
      cases hx
      exact ⟨rfl, rfl⟩
    · cases e
  rw [key.1, key.2]
  exact ⟨x', w, θ, .inl (.pure _ _), hx, r, .refl _ _ _⟩

theorem aop_sound (r : Rep P θ h w) {a : AAct} {act : Act} (ha : ActRel θ a act) (o : Oper) (e : aop P a h o.op = some (v, h')) : NextOk P θ h w (execOp act.eval o) v h' := by
  obtain ⟨dst, op, type, pos, after, guard⟩ := o
  simp only at e
  cases op with
  | move x =>
    obtain ⟨a1, rfl⟩ := keep_spec e
    exact ⟨_, w, θ, .inl (.pure _ _), ha.ev a1, r, .refl _ _ _⟩
  | assign x =>
    obtain ⟨a1, rfl⟩ := keep_spec e
    exact ⟨_, w, θ, .inl (.pure _ _), ha.ev a1, r, .refl _ _ _⟩
  | pick c x y =>
    obtain ⟨a1, rfl⟩ := keep_spec e
    obtain ⟨b, hb, hv⟩ := pick_spec ha a1
    refine ⟨_, w, θ, .inl ?_, hv, r, .refl _ _ _⟩
    simp only [execOp, hb]
    exact Runs.bind (.pure _ _) (.pure _ _)
  | alloc elem => exact (alloc_ok r e).next
  | box elem x =>
    obtain ⟨u, a1, a2⟩ := on1_spec e
    exact (box_ok r (ha.ev a1) a2).next
  | build t ps =>
    obtain ⟨vs, a1, a2⟩ := onL_spec e
    obtain ⟨a3, rfl⟩ := keep_spec a2
    exact (build_ok r ha a1 a3).next
  | buildSlice t len ps =>
    obtain ⟨vs, a1, a2⟩ := onL_spec e
    exact (buildSlice_ok r ha a1 a2).next
  | load t x =>
    obtain ⟨u, a1, a2⟩ := on1_spec e
    obtain ⟨a3, rfl⟩ := keep_spec a2
    exact (load_ok r (ha.ev a1) a3).next
  | store t x y =>
    obtain ⟨u, s, a1, a2, a3⟩ := on2_spec e
    obtain ⟨rfl, w', p, q, g⟩ := store_ok r (ha.ev a1) (ha.ev a2) a3
    exact unit_next p q g
  | nilCheck x =>
    obtain ⟨u, a1, a2⟩ := on1_spec e
    obtain ⟨a3, rfl⟩ := keep_spec a2
    exact nilCheck_ok r (ha.ev a1) a3 _ act.eval x rfl rfl
  | binOp op t x y ty =>
    obtain ⟨u, s, a1, a2, a3⟩ := on2_spec e
    obtain ⟨a4, rfl⟩ := keep_spec a3
    exact (bin_ok r (ha.ev a1) (ha.ev a2) a4).next
  | unOp op t x =>
    obtain ⟨u, a1, a2⟩ := on1_spec e
    obtain ⟨a3, rfl⟩ := keep_spec a2
    exact (un_ok r (ha.ev a1) a3).next
  | convert src dst' x =>
    obtain ⟨u, a1, a2⟩ := on1_spec e
    obtain ⟨a3, rfl⟩ := keep_spec a2
    exact (conv_ok r (ha.ev a1) a3).next
  | makeFunc fn first captured =>
    obtain ⟨a1, rfl⟩ := keep_spec e
    exact (makeFunc_ok r ha a1).next
  | makeMap t x => exact (makeMap_ok r ha e).next
  | makeSlice t x y =>
    obtain ⟨u, s, a1, a2, a3⟩ := on2_spec e
    exact (makeSlice_ok r (ha.ev a1) (ha.ev a2) a3).next
  | slice t x lo hi mx =>
    simp only [aop, aSliceOp] at e
    split at e
    · rename_i l u m hl hu hm
      obtain ⟨s, a1, a2⟩ := on1_spec e
      obtain ⟨a3, rfl⟩ := keep_spec a2
      exact (slice_ok r (ha.ev a1) (optI_rel ha hl) (optI_rel ha hu) (optI_rel ha hm) a3).next
    · cases e
  | fieldAddr s x f =>
    obtain ⟨u, a1, a2⟩ := on1_spec e
    obtain ⟨a3, rfl⟩ := keep_spec a2
    exact (fieldAddr_ok r (ha.ev a1) a3).next
  | field t x f =>
    obtain ⟨u, a1, a2⟩ := on1_spec e
    obtain ⟨a3, rfl⟩ := keep_spec a2
    exact (field_ok r (ha.ev a1) a3).next
  | indexAddr t x ix =>
    obtain ⟨u, s, a1, a2, a3⟩ := on2_spec e
    obtain ⟨a4, rfl⟩ := keep_spec a3
    exact (indexAddr_ok r (ha.ev a1) (ha.ev a2) a4).next
  | index t x ix =>
    obtain ⟨u, s, a1, a2, a3⟩ := on2_spec e
    obtain ⟨a4, rfl⟩ := keep_spec a3
    exact (index_ok r (ha.ev a1) (ha.ev a2) a4).next
  | lookup t x ix ok =>
    obtain ⟨u, s, a1, a2, a3⟩ := on2_spec e
    obtain ⟨a4, rfl⟩ := keep_spec a3
    exact (lookup_ok r (ha.ev a1) (ha.ev a2) a4).next
  | mapUpdate t x k u =>
    obtain ⟨a0, b0, c0, a1, a2, a3, a4⟩ := on3_spec e
    obtain ⟨rfl, w', p, q, g⟩ := mapUpdate_ok r (ha.ev a1) (ha.ev a2) (ha.ev a3) a4
    exact unit_next p q g
  | insert t x k u =>
    obtain ⟨a0, b0, c0, a1, a2, a3, a4⟩ := on3_spec e
    obtain ⟨rfl, w', p, q, g⟩ := mapUpdate_ok r (ha.ev a1) (ha.ev a2) (ha.ev a3) a4
    exact unit_next p q g
  | range t x =>
    obtain ⟨u, a1, a2⟩ := on1_spec e
    exact (range_ok r (ha.ev a1) a2).next
  | next x s =>
    cases s with
    | false => simp [aop] at e
    | true =>
      obtain ⟨u, a1, a2⟩ := on1_spec e
      exact (next_ok r (ha.ev a1) a2).next
  | extract x i =>
    obtain ⟨u, a1, a2⟩ := on1_spec e
    obtain ⟨a3, rfl⟩ := keep_spec a2
    exact (extract_ok r (ha.ev a1) a3).next
  | _ => simp [aop] at e
end
end Go.AM
end

section
namespace Go.AM
open Go
section
variable {P : Program} {θ : Env} {h h' : AHeap} {w : World} {v : Value}

/-- What an append does when the new elements are known. -/
def tailA (elem size len cap n : Nat) (base : Option Addr) (s x : Value) (zeros : Bool) (A : Sem (Array Value)) : Sem Value :=
  if len + n ≤ cap then do
    let new ← A
    if let some a := base then storeCells (a.add (len * size)) new.toList
    Pure.pure (Value.slice base (len + n) cap)
  else do
    if ((len + n : Nat) : Int) > IntKind.i64.max ∧ (zeros ∨ (← typeInfo elem).bytes = 0) then runtimePanic (.error "growslice: len out of range")
    if Builtin.nextslicecap (len + n) cap * (← typeInfo elem).bytes > 2 ^ 48 then (if zeros then runtimePanic (.error "growslice: len out of range") else do
      if !(← Builtin.mayShare size len n base x) then mark .noRoom
      unsupported (.resourceLimit "append: a slice or a string whose bytes no memory bears"))
    let newCap ← choose (.appendCap (len + n) cap elem)
    askRoom (newCap * (← typeInfo elem).bytes)
    let old ← Builtin.firstCells size len s
    let new ← A
    let rest := Builtin.zeroCells (← zeroValue elem).cells (newCap - (len + n))
    Pure.pure (.slice (some (← newRow elem (old ++ new ++ rest))) (len + n) newCap)

theorem tail_place {elem size len cap n : Nat} {base : Option Addr} {s x : Value} {zeros : Bool} {A : Sem (Array Value)} {new : Array Value} {w' : World} (hle : len + n ≤ cap) (hA : Runs P A w new w)
    (hst : (base = none ∧ w' = w) ∨ ∃ a, base = some a ∧ Runs P (storeCells (a.add (len * size)) new.toList) w () w') : Runs P (tailA elem size len cap n base s x zeros A) w (.slice base (len + n) cap) w' := by
  unfold tailA
  rw [if_pos hle]
  refine hA.bind ?_
  rcases hst with ⟨rfl, rfl⟩ | ⟨a, rfl, hs⟩
  · exact .pure _ _
  · exact hs.bind (.pure _ _)

theorem growBy_le {newLen : Nat} : ∀ (rounds c : Nat), c < newLen → Builtin.growBy newLen rounds c ≤ 2 * newLen + 1024
  | 0, c, h => by simp only [Builtin.growBy]; omega
  | rounds + 1, c, h => by
    simp only [Builtin.growBy]
    split
    · omega
    · by_cases h2 : c + (c + 768) / 4 < newLen
      · exact growBy_le rounds _ h2
      · cases rounds with
        | zero => simp only [Builtin.growBy]; omega
        | succ r => simp only [Builtin.growBy]; rw [if_pos (by omega)]; omega
theorem nextslicecap_le {newLen oldCap : Nat} (h : oldCap < newLen) : Builtin.nextslicecap newLen oldCap ≤ 2 * newLen + 1024 := by
  unfold Builtin.nextslicecap
  split
  · omega
  · split
    · omega
    · exact growBy_le 4 oldCap h
/-- The world behind a draw. -/
def dr (w : World) : World := { w with drawn := w.drawn + 1 }
theorem tail_new {elem size len cap n : Nat} {base : Option Addr} {s x : Value} {zeros : Bool} {A : Sem (Array Value)} {old new : Array Value} {z : List Value} {bytes : Nat} (hz : zeroOf P elem = some (z, size, bytes))
    (hle : ¬ len + n ≤ cap) (hb : (2 * (len + n) + 1024) * bytes ≤ 2 ^ 48) (h1 : 1 ≤ bytes) (ho : Runs P (Builtin.firstCells size len s) (dr w) old (dr w)) (hA : Runs P A (dr w) new (dr w)) (hos : old.size = len * size) (hns : new.size = n * size) :
    ∃ newCap arr, len + n ≤ newCap ∧ arr.size = newCap * size ∧ (∀ k, k < (len + n) * size → arr[k]? = (old ++ new)[k]?) ∧
      Runs P (tailA elem size len cap n base s x zeros A) w (.slice (some ⟨w.heap.size, 0, none⟩) (len + n) newCap) (World.push (dr w) (.cells arr elem)) := by
  obtain ⟨i, zv, hi, hiz, rfl, hfl, hlen, hsz, hby⟩ := zeroOf_spec hz
  let q : Question := .appendCap (len + n) cap elem
  let newCap := q.cut (w.tape w.drawn q)
  have hge : len + n ≤ newCap := by
    show len + n ≤ len + n + _
    omega
  have hzs : zv.cells.size = size := by simpa using hlen
  have hZ : ∀ k : Nat, (Builtin.zeroCells zv.cells k).size = k * size := fun k => by simp [Builtin.zeroCells, hzs]
  refine ⟨newCap, old ++ new ++ Builtin.zeroCells zv.cells (newCap - (len + n)), hge, ?_, ?_, ?_⟩
  · rw [Array.size_append, Array.size_append, hos, hns, hZ, ← Nat.add_mul, ← Nat.add_mul]
    congr 1; omega
  · intro k hk
    have hl : k < (old ++ new).size := by rw [Array.size_append, hos, hns, ← Nat.add_mul]; exact hk
    exact Array.getElem?_append_left hl
  · unfold tailA
    rw [if_neg hle]
    refine (run_info hi).bind ?_
    rw [if_neg (by
      rintro ⟨hgt, _⟩
      have hm : IntKind.i64.max = 9223372036854775807 := by decide
      rw [hm] at hgt
      have : (2 * (len + n) + 1024) * 1 ≤ (2 * (len + n) + 1024) * bytes := Nat.mul_le_mul_left _ h1
      omega)]
    refine (run_info hi).bind ?_
    rw [hby, if_neg (by
      have h2 := nextslicecap_le (newLen := len + n) (oldCap := cap) (by omega)
      have : Builtin.nextslicecap (len + n) cap * bytes ≤ (2 * (len + n) + 1024) * bytes := Nat.mul_le_mul_right _ h2
      omega)]
    refine Runs.bind (a := newCap) (w₁ := dr w) rfl ?_
    refine (run_info hi).bind (Runs.bind (askRoom_run _) ?_)
    refine ho.bind (hA.bind ((run_zero hi hiz).bind ?_))
    exact Runs.bind (Runs.bind (.new _ _) (.pure _ _)) (.pure _ _)

theorem dr_rep (r : Rep P θ h w) : Rep P θ h (dr w) := (r.drawn _).1
/-- The cells of the first elements of a slice, or of a string. -/
theorem elems_rel (r : Rep P θ h w) {size n : Nat} {x x' : Value} {new : List Value} (hx : VRel θ x x') (e : elemsOf h size n x = some new) :
    ∃ new' : List Value, LRel θ new new' ∧ ∀ w₂ : World, w₂.heap = w.heap → Runs P (Builtin.firstCells size n x') w₂ new'.toArray w₂ := by
  unfold elemsOf at e
  split at e
  · obtain rfl := Option.some.inj e
    obtain rfl := sliceNil_inv hx
    exact ⟨[], .nil, fun _ _ => .pure _ _⟩
  · rename_i b off len cap
    cases hl : Nat.ble n len with
    | false => rw [hl] at e; simp at e
    | true =>
      rw [hl] at e
      simp only [cond_true] at e
      have hle := Nat.le_of_ble_eq_true hl
      cases h0 : Nat.beq n 0 with
      | true =>
        rw [h0] at e
        obtain rfl : [] = new := by simpa using e
        obtain rfl := Nat.eq_of_beq_eq_true h0
        obtain ⟨a', m, d, rfl⟩ := sliceSome_inv hx
        refine ⟨[], .nil, fun _ _ => ?_⟩
        simp only [Builtin.firstCells, Nat.zero_mul]
        exact .pure _ _
      | false =>
        rw [h0] at e
        simp only [cond_false] at e
        have hn0 := beq_false h0
        split at e
        · rename_i c hg
          have hc : CRel P θ (θ.f b) c w := (r.obj b _ hg).2.2
          obtain ⟨l', hr, hn, hcell⟩ := row_rel hc e
          have key : ∃ m d, x' = .slice (some ⟨(θ.f b).blk, off + (θ.f b).sh, none⟩) m d := by
            cases hx with
            | slice _ _ => exact ⟨_, _, rfl⟩
            | sliceO _ _ _ => exact ⟨_, _, rfl⟩
            | sliceE _ _ => omega
            | sliceZ _ => omega
          obtain ⟨m, d, rfl⟩ := key
          refine ⟨l', hr, fun w₂ hw => ?_⟩
          simp only [Builtin.firstCells]
          rw [← hn]
          exact run_loadCells (fun k hk => (cell?_congr (by rw [hw]) _).trans (hcell k (by omega)))
        · cases e
  · rename_i s
    cases hl : Nat.beq n s.size with
    | false => rw [hl] at e; simp at e
    | true =>
      rw [hl] at e
      obtain rfl : bytesOf s = new := by simpa using e
      obtain rfl := Nat.eq_of_beq_eq_true hl
      obtain rfl : x' = .string s := scalar_eq rfl hx
      refine ⟨bytesOf s, scalars_rel ?_, fun w₂ _ => ?_⟩
      · rw [List.all_eq_true]
        intro u hu
        simp only [bytesOf, List.mem_map] at hu
        obtain ⟨b, _, rfl⟩ := hu
        rfl
      · have : s.extract 0 s.size = s := by simp
        simp only [Builtin.firstCells, this]
        show Runs P (Pure.pure _) w₂ _ w₂
        have : (s.data.map fun b => Value.int .u8 (b.toNat : Int)) = (bytesOf s).toArray := by
          apply Array.toList_inj.1
          simp [bytesOf]
        rw [this]
        exact .pure _ _
  · cases e
end
end Go.AM
end

section
namespace Go.AM
open Go
section
variable {P : Program} {θ : Env} {h h' : AHeap} {w w' : World} {v : Value}

theorem lt_self {n : Nat} (h : n < n) : False := Nat.lt_irrefl n h
theorem cellOk_rel {u u' : Value} (r : VRel θ u u') (h : cellOk u = true) : cellOk u' = true := by
  cases r <;> first | rfl | simp [cellOk] at h
theorem cellsOk_rel : ∀ {l l' : List Value}, LRel θ l l' → l.all cellOk = true → l'.all cellOk = true
  | [], l', r, _ => by rw [r.nil_inv]; rfl
  | u :: l, l', r, h => by
    obtain ⟨u', m, rfl, hu, hm⟩ := r.cons_inv
    simp only [List.all_cons, Bool.and_eq_true] at h ⊢
    exact ⟨cellOk_rel hu h.1, cellsOk_rel hm h.2⟩

/-- A new object takes the block of an old one, which is gone. -/
theorem Rep.take (r : Rep P θ h w) {b : Nat} {o o' : AObj} {th : Th} (e : h.get b = some o) (hw : o.wr = true) (hblk : th.blk = (θ.f b).blk)
    (os : w'.os = w.os) (tape : w'.tape = w.tape) (output : w'.output = w.output) (hs : w'.heap.size = w.heap.size)
    (hf : ∀ c, c ≠ (θ.f b).blk → w'.heap[c]? = w.heap[c]?) (ho : ORel P (θ.ext th) th o' w') :
    Rep P (θ.ext th) ((h.del b).new o') w' ∧ Goes θ h w (θ.ext th) ((h.del b).new o') w' := by
  have hnx : (h.del b).next = h.next := rfl
  have get' : ∀ i oi, ((h.del b).new o').get i = some oi → (i = h.next ∧ oi = o') ∨ (i ≠ h.next ∧ i ≠ b ∧ h.get i = some oi) := by
    intro i oi ei
    rw [AHeap.get_new, hnx] at ei
    by_cases hi : i = h.next
    · rw [if_pos hi] at ei
      exact .inl ⟨hi, (Option.some.inj ei).symm⟩
    · rw [if_neg hi, AHeap.get_del] at ei
      by_cases hib : i = b
      · rw [if_pos hib] at ei; cases ei
      · rw [if_neg hib] at ei; exact .inr ⟨hi, hib, ei⟩
  have apart : ∀ i oi, i ≠ b → h.get i = some oi → (θ.f i).blk ≠ (θ.f b).blk := fun i oi hib ei eb => r.inj b i o oi e ei (Ne.symm hib) hw eb.symm
  refine ⟨⟨by rw [AHeap.next_new, hnx, ← r.nx]; rfl, ?_, ?_, r.low_ext (by rw [hblk, hs]; exact (r.obj b o e).2.1) (fun c hc => hs ▸ hc), r.glob_ext⟩, ⟨Env.le_ext _ _, os, tape, output, by omega, fun c _ hn => hf c (fun ec => hn ⟨b, o, e, hw, ec.symm⟩), ?_⟩⟩
  · intro i oi ei
    rcases get' i oi ei with ⟨rfl, rfl⟩ | ⟨hi, hib, eo⟩
    · rw [← r.nx, Env.ext_new]
      exact ⟨by rw [AHeap.next_new, hnx, ← r.nx]; exact Nat.lt_succ_self _, by rw [hblk, hs]; exact (r.obj b o e).2.1, ho⟩
    · obtain ⟨p, q, s⟩ := r.obj i oi eo
      rw [Env.ext_old _ _ (r.lt eo)]
      exact ⟨Nat.lt_succ_of_lt p, by omega, (s.mono (Env.le_ext _ _)).congr (hf _ (apart i oi hib eo))⟩
  · intro i j oi oj ei ej hij hwi
    rcases get' i oi ei with ⟨rfl, rfl⟩ | ⟨hi, hib, eo⟩
    · rcases get' j oj ej with ⟨rfl, rfl⟩ | ⟨hj, hjb, eo2⟩
      · exact absurd rfl hij
      · rw [← r.nx, Env.ext_new, Env.ext_old _ _ (r.lt eo2), hblk]
        exact fun eb => apart j oj hjb eo2 eb.symm
    · rw [Env.ext_old _ _ (r.lt eo)]
      rcases get' j oj ej with ⟨rfl, rfl⟩ | ⟨hj, hjb, eo2⟩
      · rw [← r.nx, Env.ext_new, hblk]
        exact apart i oi hib eo
      · rw [Env.ext_old _ _ (r.lt eo2)]
        exact r.inj i j oi oj eo eo2 hij hwi
  · rintro c _ ⟨i, oi, ei, hwi, rfl⟩
    rcases get' i oi ei with ⟨rfl, rfl⟩ | ⟨hi, hib, eo⟩
    · rw [← r.nx, Env.ext_new, hblk]
      exact ⟨b, o, e, hw, rfl⟩
    · rw [Env.ext_old _ _ (r.lt eo)]
      exact ⟨i, oi, eo, hwi, rfl⟩

theorem at_list' (l : List Value) (elem : TypeId) (n : Nat) (opn : Bool) {bs : Bool} (hn : n = l.length) (k : Nat) (u : Value) (e : ({ n, z := [], t := Tr.nil.setAll 0 l, elem, opn, ro := false, base := bs } : ACells).at k = some u) : l[k]? = some u := by
  subst hn
  have hk := at_lt e
  simp only at hk
  unfold ACells.at at e
  rw [show Nat.blt k l.length = true from Nat.ble_eq_true_of_le hk] at e
  simp only [Tr.get_setAll, Nat.zero_le, true_and, Nat.zero_add, hk, if_true, Nat.sub_zero, List.getElem?_eq_getElem hk] at e ⊢
  simpa using e

/-- The new block of an append. -/
theorem fresh_ok (bs : Bool) {h₀ : AHeap} (r₀ : Rep P θ h₀ (dr w)) {elem size need newCap : Nat} {old new old' new' : List Value} {arr : Array Value} (hi : sizeOfT P elem = some size)
    (ho : LRel θ old old') (hn : LRel θ new new') (hlen : (old ++ new).length = need * size) (hge : need ≤ newCap) (hsz : arr.size = newCap * size) (harr : ∀ k, k < need * size → arr[k]? = (old'.toArray ++ new'.toArray)[k]?) :
    ∃ θ', Rep P θ' (newCells h₀ (need * size) [] (Tr.nil.setAll 0 (old ++ new)) elem true bs) (World.push (dr w) (.cells arr elem)) ∧
      Goes θ h₀ (dr w) θ' (newCells h₀ (need * size) [] (Tr.nil.setAll 0 (old ++ new)) elem true bs) (World.push (dr w) (.cells arr elem)) ∧
      VRel θ' (.slice (some ⟨h₀.next, 0, none⟩) need OPEN) (.slice (some ⟨w.heap.size, 0, none⟩) need newCap) := by
  let th : Th := ⟨w.heap.size, 0, arr.size, size⟩
  have hmul : need * size ≤ newCap * size := Nat.mul_le_mul_right _ hge
  obtain ⟨i, hii, his⟩ := sizeOfT_spec hi
  obtain ⟨a, b⟩ := r₀.new (o := .cells { n := need * size, z := [], t := Tr.nil.setAll 0 (old ++ new), elem, opn := true, ro := false, base := bs }) (ob := .cells arr elem) (th := th) rfl
    ⟨fun k u e => by
        have hk := at_lt e
        simp only at hk
        obtain ⟨u', x, y⟩ := (ho.append hn).get (at_list' _ _ _ _ hlen.symm _ _ e)
        refine ⟨u', ?_, y.mono (Env.le_ext _ _)⟩
        simp only [World.cell?]
        rw [show th.blk = (dr w).heap.size from rfl, push_get]
        simp only [Option.isSome_none, Bool.false_eq_true, if_false, th, Nat.add_zero]
        rw [harr k hk]
        simpa using x,
     fun _ => ⟨arr, push_get _ _, by simp only [th]; omega, fun _ => ⟨rfl, i, hii, his⟩⟩, fun _ => rfl, fun _ x => by cases x⟩
  refine ⟨_, a, b, ?_⟩
  have hx : h₀.next < (θ.ext th).nx := by rw [← r₀.nx]; exact Nat.lt_succ_self _
  have hth : (θ.ext th).f h₀.next = th := by rw [← r₀.nx, Env.ext_new]
  have := VRel.sliceO (θ := θ.ext th) (b := h₀.next) (o := 0) (n := need) (c := newCap) hx hge (by rw [hth]; simp only [th]; omega)
  rw [hth] at this
  exact this

theorem appendTo_ok (r : Rep P θ h w) {elem size bytes n : Nat} {z : List Value} {s s' : Value} {new new' : List Value} {A : Sem (Array Value)} (hz : zeroOf P elem = some (z, size, bytes)) (hs : VRel θ s s') (hn : LRel θ new new')
    (hA : ∀ w₂, w₂ = w ∨ w₂ = dr w → Runs P A w₂ new'.toArray w₂) (e : appendTo P h elem size bytes s n new = some (v, h')) :
    ∃ base len cap, s' = .slice base len cap ∧ ∀ x zeros, Ok P θ h w (tailA elem size len cap n base s' x zeros A) v h' := by
  have hsize : sizeOfT P elem = some size := by
    obtain ⟨i, zv, hi, _, _, _, _, hsz, _⟩ := zeroOf_spec hz
    simp [sizeOfT, hi, hsz]
  unfold appendTo at e
  cases hl : (!Nat.beq new.length (n * size)) with
  | true => rw [hl] at e; simp at e
  | false =>
    rw [hl] at e
    simp only [cond_false] at e
    have hnl : new.length = n * size := by
      simp only [Bool.not_eq_false'] at hl
      exact Nat.eq_of_beq_eq_true hl
    have hnl' : new'.length = n * size := by rw [← hn.len]; exact hnl
    -- the way by a new block
    have byNew : ∀ (bs : Bool) {base : Option Addr} {len cap : Nat} {old old' : List Value}, s' = .slice base len cap → ¬ len + n ≤ cap → (2 * (len + n) + 1024) * bytes ≤ 2 ^ 48 → 1 ≤ bytes →
        LRel θ old old' → old.length = len * size → Runs P (Builtin.firstCells size len s') (dr w) old'.toArray (dr w) → ∀ {h₀ : AHeap}, Rep P θ h₀ (dr w) → Goes θ h w θ h₀ (dr w) → h₀.next = h.next → ∀ x zeros,
        Ok P θ h w (tailA elem size len cap n base s' x zeros A) (.slice (some ⟨h.next, 0, none⟩) (len + n) OPEN) (newCells h₀ ((len + n) * size) [] (Tr.nil.setAll 0 (old ++ new)) elem true bs) := by
      intro bs base len cap old old' hs' hle hb h1 ho hol hrun h₀ r₀ g₀ hnx x zeros
      have hol' : old'.length = len * size := by rw [← ho.len]; exact hol
      obtain ⟨newCap, arr, hge, hsz, harr, hr⟩ := tail_new (P := P) (w := w) (base := base) (s := s') (x := x) (zeros := zeros) (A := A) hz hle hb h1 hrun (hA _ (.inr rfl)) (by simpa using hol') (by simpa using hnl')
      obtain ⟨θ', a, b, c⟩ := fresh_ok bs (w := w) r₀ hsize ho hn (by rw [List.length_append, hol, hnl, ← Nat.add_mul]) hge hsz harr
      rw [hnx] at c
      exact ⟨_, _, θ', hr, c, a, g₀.trans b⟩
    cases s with
    | slice p len cap =>
      cases p with
      | none =>
        obtain rfl := sliceNil_inv hs
        refine ⟨none, len, cap, rfl, fun x zeros => ?_⟩
        simp only at e
        cases hc : (!(Nat.beq len 0 && Nat.beq cap 0)) with
        | true => rw [hc] at e; simp at e
        | false =>
          rw [hc] at e
          simp only [cond_false] at e
          simp only [Bool.not_eq_false', Bool.and_eq_true] at hc
          obtain ⟨h1, h2⟩ := hc
          obtain rfl := Nat.eq_of_beq_eq_true h1
          obtain rfl := Nat.eq_of_beq_eq_true h2
          cases h0 : Nat.beq n 0 with
          | true =>
            rw [h0] at e
            obtain rfl := Nat.eq_of_beq_eq_true h0
            simp only [cond_true, Option.some.injEq, Prod.mk.injEq] at e
            obtain ⟨rfl, rfl⟩ := e
            exact .keep r (tail_place (Nat.le_refl _) (hA _ (.inl rfl)) (.inl ⟨rfl, rfl⟩)) (.slice0 _ _)
          | false =>
            rw [h0] at e
            simp only [cond_false] at e
            have hn0 := beq_false h0
            cases hb : (Nat.ble ((2 * n + 1024) * bytes) (2 ^ 48) && Nat.ble 1 bytes) with
            | false => rw [hb] at e; simp at e
            | true =>
              rw [hb] at e
              simp only [cond_true, Option.some.injEq, Prod.mk.injEq] at e
              obtain ⟨rfl, rfl⟩ := e
              simp only [Bool.and_eq_true] at hb
              have := byNew true (base := none) (len := 0) (cap := 0) (old := []) (old' := []) rfl (by omega) (by rw [Nat.zero_add]; exact Nat.le_of_ble_eq_true hb.1) (Nat.le_of_ble_eq_true hb.2) .nil (by simp) (.pure _ _) (dr_rep r) (r.drawn _).2 rfl x zeros
              simpa using this
      | some a =>
        obtain ⟨b, off, sp⟩ := a
        cases sp with
        | some _ => simp at e
        | none =>
          simp only at e
          -- nothing to append
          cases h0 : Nat.beq n 0 with
          | true =>
            rw [h0] at e
            obtain rfl := Nat.eq_of_beq_eq_true h0
            simp only [cond_true] at e
            cases hlc : Nat.ble len cap with
            | false => rw [hlc] at e; simp at e
            | true =>
              rw [hlc] at e
              simp only [cond_true, Option.some.injEq, Prod.mk.injEq] at e
              obtain ⟨rfl, rfl⟩ := e
              have hnil : new' = [] := List.eq_nil_of_length_eq_zero (by simpa using hnl')
              subst hnil
              have hle := Nat.le_of_ble_eq_true hlc
              have key : ∃ a' d, s' = .slice (some a') len d ∧ len ≤ d := by
                cases hs with
                | slice _ _ => exact ⟨_, _, rfl, hle⟩
                | sliceO _ hn' _ => exact ⟨_, _, rfl, hn'⟩
                | sliceE _ _ => exact ⟨_, _, rfl, Nat.le_refl _⟩
                | sliceZ _ => exact ⟨_, _, rfl, Nat.le_refl _⟩
              obtain ⟨a', d, rfl, hd⟩ := key
              exact ⟨some a', len, d, rfl, fun x zeros => .keep r (tail_place (by omega) (hA _ (.inl rfl)) (.inr ⟨a', rfl, .pure _ _⟩)) hs⟩
          | false =>
            rw [h0] at e
            simp only [cond_false] at e
            have hn0 := beq_false h0
            cases hg : h.get b with
            | none => rw [hg] at e; cases e
            | some o =>
              rw [hg] at e
              cases o with
              | cells c =>
                simp only at e
                have hc : CRel P θ (θ.f b) c w := (r.obj b _ hg).2.2
                cases hkc : knownCap P h b off cap size with
                | none => rw [hkc] at e; cases e
                | some known =>
                  rw [hkc] at e
                  simp only at e
                  cases hnk : Nat.ble (len + n) known with
                  | true =>
                    rw [hnk] at e
                    simp only [cond_true, Option.map_eq_some_iff, Prod.mk.injEq] at e
                    obtain ⟨c', hp, rfl, rfl⟩ := e
                    have hle := Nat.le_of_ble_eq_true hnk
                    obtain ⟨hro, hpl, hok, hc'⟩ := put_spec hp
                    obtain ⟨arr, ha, hlen, _⟩ := hc.wr hro
                    obtain ⟨w', arr', hrun, hst⟩ := run_storeCells (P := P) (b := (θ.f b).blk) (o := off + len * size + (θ.f b).sh) new' 0 w arr ha (by have := hn.len; omega) (cellsOk_rel hn hok)
                    rw [Nat.add_zero] at hst
                    obtain ⟨p, q⟩ := r.turn (o' := .cells c') hg (by simp [AObj.wr, hro]) (by simp [AObj.wr, hc', hro]) hst.os hst.tape hst.output hst.size (fun k hk => hst.other k hk) (hc.stored hp hn ha hst)
                    have hrun' : Runs P (storeCells ((⟨(θ.f b).blk, off + (θ.f b).sh, none⟩ : Addr).add (len * size)) new'.toArray.toList) w () w' := by
                      rw [add_off, show off + (θ.f b).sh + len * size = off + len * size + (θ.f b).sh by omega]
                      exact hrun
                    cases hs with
                    | slice hb hco =>
                      obtain rfl := knownCap_closed hco hkc
                      exact ⟨_, _, _, rfl, fun x zeros => ⟨_, w', θ, tail_place hle (hA _ (.inl rfl)) (.inr ⟨_, rfl, hrun'⟩), .slice hb hco, p, q⟩⟩
                    | sliceZ hb =>
                      have := knownCap_closed (cap := 0) (by decide) hkc
                      omega
                    | sliceE hb hrm =>
                      obtain ⟨c2, arr2, hg2, _, _, hes, h1, hkn, _, _, hle2, _⟩ := knownCap_open r hkc
                      have hk0 : known = 0 := by rw [hkn, show c2.n - off = 0 by omega]; simp
                      omega
                    | sliceO hb hn' hrm =>
                      rename_i cc
                      obtain ⟨c2, arr2, hg2, _, _, hes, h1, hkn, _, _, hle2, _⟩ := knownCap_open r hkc
                      have hkl : known ≤ cc := by rw [hkn]; exact known_le h1 (by omega) (by rw [← hes]; exact hrm)
                      exact ⟨_, _, _, rfl, fun x zeros => ⟨_, w', θ, tail_place (by omega) (hA _ (.inl rfl)) (.inr ⟨_, rfl, hrun'⟩), .sliceO hb (by omega) hrm, p, q⟩⟩
                  | false =>
                    rw [hnk] at e
                    simp only [cond_false] at e
                    have hnle : ¬ len + n ≤ known := fun hh => by rw [Nat.ble_eq_true_of_le hh] at hnk; cases hnk
                    cases hb : (Nat.ble ((2 * (len + n) + 1024) * bytes) (2 ^ 48) && Nat.ble 1 bytes) with
                    | false => rw [hb] at e; simp at e
                    | true =>
                      rw [hb] at e
                      simp only [cond_true] at e
                      simp only [Bool.and_eq_true] at hb
                      have hb1 := Nat.le_of_ble_eq_true hb.1
                      have hb2 := Nat.le_of_ble_eq_true hb.2
                      cases hrow : c.row off (len * size) with
                      | none => rw [hrow] at e; cases e
                      | some old =>
                        rw [hrow] at e
                        simp only at e
                        obtain ⟨old', hor, hol, hcell⟩ := row_rel hc hrow
                        have holl : old.length = len * size := by rw [hor.len]; exact hol
                        have hfirst : ∀ (m : Nat) (w₂ : World), w₂.heap = w.heap → Runs P (Builtin.firstCells size len (.slice (some ⟨(θ.f b).blk, off + (θ.f b).sh, none⟩) len m)) w₂ old'.toArray w₂ := by
                          intro m w₂ hw
                          simp only [Builtin.firstCells]
                          rw [← hol]
                          refine run_loadCells (fun k hk => ?_)
                          have := hcell k (by omega)
                          rw [← this]
                          exact cell?_congr (by rw [hw]) _
                        have hzero : ∀ (a : Addr) (m : Nat) (w₂ : World), len = 0 → Runs P (Builtin.firstCells size len (.slice (some a) len m)) w₂ (#[] : Array Value) w₂ := by
                          intro a m w₂ h0
                          subst h0
                          simp only [Builtin.firstCells, Nat.zero_mul]
                          exact .pure _ _
                        cases hop : Nat.beq cap OPEN with
                        | false =>
                          rw [hop] at e
                          simp only [cond_false, Option.some.injEq, Prod.mk.injEq] at e
                          obtain ⟨rfl, rfl⟩ := e
                          have hno := beq_false hop
                          cases hs with
                          | slice hbx hco =>
                            obtain rfl := knownCap_closed hco hkc
                            exact ⟨_, _, _, rfl, fun x zeros => byNew _ rfl hnle hb1 hb2 hor holl (hfirst _ _ rfl) (dr_rep r) (r.drawn _).2 rfl x zeros⟩
                          | sliceZ hbx =>
                            obtain rfl : old = [] := List.eq_nil_of_length_eq_zero (by omega)
                            exact ⟨_, _, _, rfl, fun x zeros => byNew _ rfl (by omega) hb1 hb2 .nil (by simp) (hzero _ _ _ rfl) (dr_rep r) (r.drawn _).2 rfl x zeros⟩
                          | sliceO _ _ _ => exact absurd rfl hno
                          | sliceE _ _ => exact absurd rfl hno
                        | true =>
                          rw [hop] at e
                          simp only [cond_true] at e
                          cases ht : (Nat.beq (off + len * size) c.n && Nat.beq c.elem elem && new.all cellOk) with
                          | false => rw [ht] at e; simp at e
                          | true =>
                            rw [ht] at e
                            simp only [cond_true, Option.some.injEq, Prod.mk.injEq] at e
                            obtain ⟨rfl, rfl⟩ := e
                            simp only [Bool.and_eq_true] at ht
                            obtain ⟨⟨ht1, ht2⟩, hok⟩ := ht
                            have htip := Nat.eq_of_beq_eq_true ht1
                            have hel := Nat.eq_of_beq_eq_true ht2
                            obtain rfl := Nat.eq_of_beq_eq_true hop
                            obtain ⟨c2, arr, hg2, hopn, hro, hes, h1, hkn, ha, har, hle2, hse⟩ := knownCap_open r hkc
                            rw [hg] at hg2
                            obtain rfl : c = c2 := by simpa using hg2
                            have hdel : Rep P θ (h.del b) (dr w) := ((dr_rep r).del b).1
                            have hgo : Goes θ h w θ (h.del b) (dr w) := (r.drawn _).2.trans ((dr_rep r).del b).2
                            cases hs with
                            | slice hbx hco => exact (lt_self hco).elim
                            | sliceE hbx hrm =>
                              obtain rfl : old = [] := List.eq_nil_of_length_eq_zero (by omega)
                              exact ⟨_, _, _, rfl, fun x zeros => byNew _ rfl (by omega) hb1 hb2 .nil (by simp) (hzero _ _ _ rfl) hdel hgo rfl x zeros⟩
                            | sliceO hbx hn' hrm =>
                              rename_i cc
                              refine ⟨_, _, _, rfl, fun x zeros => ?_⟩
                              by_cases hpl : len + n ≤ cc
                              · -- in place: the new object takes the block
                                have hmulA : (len + n) * size ≤ cc * size := Nat.mul_le_mul_right _ hpl
                                have hmulB : (len + n) * size = len * size + n * size := Nat.add_mul _ _ _
                                obtain ⟨w', arr', hrun, hst⟩ := run_storeCells (P := P) (b := (θ.f b).blk) (o := off + (θ.f b).sh + len * size) new' 0 w arr ha (by rw [hes] at hrm; omega) (cellsOk_rel hn hok)
                                rw [Nat.add_zero] at hst
                                let th : Th := ⟨(θ.f b).blk, (θ.f b).sh + off, (θ.f b).room, size⟩
                                obtain ⟨i, hii, his⟩ := sizeOfT_spec hsize
                                obtain ⟨p, q⟩ := r.take (o' := .cells { n := (len + n) * size, z := [], t := Tr.nil.setAll 0 (old ++ new), elem, opn := true, ro := false, base := c.base && Nat.beq off 0 }) (th := th) hg (by simp [AObj.wr, hro]) rfl hst.os hst.tape hst.output hst.size (fun k hk => hst.other k hk)
                                  ⟨fun k u ek => by
                                      have hk := at_lt ek
                                      simp only at hk
                                      obtain ⟨u', x1, y1⟩ := (hor.append hn).get (at_list' _ _ _ _ (by rw [List.length_append, holl, hnl, hmulB]) _ _ ek)
                                      refine ⟨u', ?_, y1.mono (Env.le_ext _ _)⟩
                                      have hcl : ∀ o, w'.cell? ⟨(θ.f b).blk, o, none⟩ = arr'[o]? := fun o => by simp [World.cell?, hst.here]
                                      show w'.cell? ⟨(θ.f b).blk, k + ((θ.f b).sh + off), none⟩ = some u'
                                      rw [hcl, hst.at_]
                                      by_cases hkl : k < len * size
                                      · rw [if_neg (by omega)]
                                        rw [List.getElem?_append_left (by omega)] at x1
                                        have := hcell k hkl
                                        rw [x1] at this
                                        rw [← this, show off + (θ.f b).sh + k = k + ((θ.f b).sh + off) by omega]
                                        simp [World.cell?, ha]
                                      · rw [if_pos (by omega)]
                                        rw [List.getElem?_append_right (by omega)] at x1
                                        rw [← x1, show k + ((θ.f b).sh + off) - (off + (θ.f b).sh + len * size) = k - old'.length by omega],
                                   fun _ => ⟨arr', by rw [hst.here, hel], by simp only [th]; rw [hst.len, har]; rw [hes] at hrm; omega, fun _ => ⟨by simp only [th]; rw [hst.len, har], i, hii, his⟩⟩, fun hbs => by
                                    simp only [Bool.and_eq_true] at hbs
                                    have h0 := ((r.obj b _ hg).2.2 : CRel P θ (θ.f b) c w).zero hbs.1
                                    have h1 := Nat.eq_of_beq_eq_true hbs.2
                                    simp only [th]; omega, fun _ x => by cases x⟩
                                have hrun' : Runs P (storeCells ((⟨(θ.f b).blk, off + (θ.f b).sh, none⟩ : Addr).add (len * size)) new'.toArray.toList) w () w' := by
                                  rw [add_off]; exact hrun
                                refine ⟨_, w', _, tail_place hpl (hA _ (.inl rfl)) (.inr ⟨_, rfl, hrun'⟩), ?_, p, q⟩
                                have hx : h.next < (θ.ext th).nx := by rw [← r.nx]; exact Nat.lt_succ_self _
                                have hth : (θ.ext th).f h.next = th := by rw [← r.nx, Env.ext_new]
                                have := VRel.sliceO (θ := θ.ext th) (b := h.next) (o := 0) (n := len + n) (c := cc) hx hpl (by rw [hth]; simp only [th]; rw [hes] at hrm; omega)
                                rw [hth] at this
                                simp only [th] at this
                                rwa [show 0 + ((θ.f b).sh + off) = off + (θ.f b).sh by omega] at this
                              · exact byNew _ rfl hpl hb1 hb2 hor holl (hfirst _ _ rfl) hdel hgo rfl x zeros
              | _ => simp at e
    | _ => simp at e
end
end Go.AM
end

section
namespace Go.AM
open Go
section
variable {P : Program} {θ : Env} {h h' : AHeap} {w : World} {v : Value}

theorem repeatL_get (z : List Value) : ∀ (n k : Nat), (repeatL z n)[k]? = if k < n * z.length then z[k % z.length]? else none
  | 0, k => by simp [repeatL]
  | n + 1, k => by
    simp only [repeatL]
    have hm : (n + 1) * z.length = n * z.length + z.length := Nat.succ_mul _ _
    by_cases hk : k < z.length
    · rw [List.getElem?_append_left hk, if_pos (by omega), Nat.mod_eq_of_lt hk]
    · rw [List.getElem?_append_right (by omega), repeatL_get z n, hm]
      by_cases h2 : k - z.length < n * z.length
      · rw [if_pos h2, if_pos (by omega), Nat.mod_eq_sub_mod (a := k) (b := z.length) (by omega)]
      · rw [if_neg h2, if_neg (by omega)]
theorem repeatL_all {z : List Value} (hz : z.all flat = true) : ∀ n, (repeatL z n).all flat = true
  | 0 => rfl
  | n + 1 => by simp only [repeatL, List.all_append, hz, repeatL_all hz n, Bool.and_self]
theorem zeroCells_eq (z : Array Value) (n : Nat) : Builtin.zeroCells z n = (repeatL z.toList n).toArray := by
  apply Array.toList_inj.1
  apply List.ext_getElem?
  intro k
  simp only [Builtin.zeroCells, Array.toList_map]
  rw [repeatL_get, List.getElem?_map]
  simp only [Array.length_toList]
  by_cases hk : k < n * z.size
  · have hpos : 0 < z.size := Nat.pos_of_ne_zero (fun e => by rw [e] at hk; simp at hk)
    have hl : k % z.size < z.size := Nat.mod_lt _ hpos
    rw [if_pos hk]
    simp [hk, hl]
  · rw [if_neg hk]
    simp; omega

theorem lenV_run {x x' : Value} {n : Nat} (hx : VRel θ x x') (e : lenV x = some n) : Runs P (Builtin.lenOf x') w n w := by
  unfold lenV at e
  split at e
  · obtain rfl := Option.some.inj e
    cases hx <;> exact .pure _ _
  · obtain rfl := Option.some.inj e
    rw [scalar_eq rfl hx]; exact .pure _ _
  · cases e

theorem append_ok (r : Rep P θ h w) {elem ts tx ty : TypeId} {s s' x x' : Value} (hu : P.underlying ts = some (.slice elem)) (hs : VRel θ s s') (hx : VRel θ x x') (e : aAppend P h elem tx s x = some (v, h')) :
    Ok P θ h w (Builtin.append_ #[ts, tx] ty #[s', x']) v h' := by
  unfold aAppend at e
  cases hz : zeroOf P elem with
  | none => rw [hz] at e; cases e
  | some q =>
    obtain ⟨z, size, bytes⟩ := q
    rw [hz] at e
    obtain ⟨i, zv, hi, hiz, rfl, hfl, hlen, hsz, hby⟩ := zeroOf_spec hz
    have hsize : sizeOfT P elem = some size := by simp [sizeOfT, hi, hsz]
    cases hd : P.underlying tx with
    | none => rw [hd] at e; cases e
    | some d =>
      rw [hd] at e
      simp only at e
      cases hint : isIntD d with
      | false =>
        rw [hint] at e
        simp only [cond_false] at e
        cases hl : lenV x with
        | none => rw [hl] at e; cases e
        | some n =>
          rw [hl] at e
          simp only at e
          cases hel : elemsOf h size n x with
          | none => rw [hel] at e; cases e
          | some new =>
            rw [hel] at e
            simp only at e
            obtain ⟨new', hnr, hrun⟩ := elems_rel r hx hel
            obtain ⟨base, len, cap, rfl, hok⟩ := appendTo_ok r (A := if (!false) = true then Builtin.firstCells size n x' else if n * size = 0 then Pure.pure #[] else do Pure.pure (Builtin.zeroCells (← zeroValue elem).cells n)) hz hs hnr
              (fun w₂ hw => by
                rcases hw with rfl | rfl
                · exact hrun _ rfl
                · exact hrun _ rfl) e
            obtain ⟨v', w', θ', a, b⟩ := hok x' false
            refine ⟨v', w', θ', ?_, b⟩
            refine (run_under hu).bind ((run_sizeT hsize).bind ((run_under hd).bind ?_))
            refine Runs.bind (a := isIntD d) (w₁ := w) (.pure _ _) ?_
            rw [hint]
            exact (lenV_run hx hl).bind a
      | true =>
        rw [hint] at e
        simp only [cond_true] at e
        split at e
        · rename_i k l
          obtain rfl := int_inv hx
          cases hb : (decide (0 ≤ l) && decide (l ≤ 4294967296) && Nat.ble (l.toNat * bytes) (2 ^ 48)) with
          | false => rw [hb] at e; simp at e
          | true =>
            rw [hb] at e
            simp only [cond_true] at e
            simp only [Bool.and_eq_true, decide_eq_true_eq] at hb
            obtain ⟨⟨h0, h1⟩, h2⟩ := hb
            have h2 := Nat.le_of_ble_eq_true h2
            have hA : ∀ w₂ : World, Runs P (if (!true) = true then Builtin.firstCells size l.toNat (.int k l) else if l.toNat * size = 0 then Pure.pure #[] else do Pure.pure (Builtin.zeroCells (← zeroValue elem).cells l.toNat)) w₂ (repeatL zv.cells.toList l.toNat).toArray w₂ := by
              intro w₂
              simp only [Bool.not_true, Bool.false_eq_true, if_false]
              by_cases hn : l.toNat * size = 0
              · rw [if_pos hn]
                have : repeatL zv.cells.toList l.toNat = [] := by
                  apply List.eq_nil_iff_forall_not_mem.2
                  intro u hm
                  obtain ⟨j, hj, hju⟩ := List.getElem_of_mem hm
                  have := repeatL_get zv.cells.toList l.toNat j
                  rw [List.getElem?_eq_getElem hj, hlen, hn] at this
                  simp at this
                rw [this]; exact .pure _ _
              · rw [if_neg hn, ← zeroCells_eq]
                exact (run_zero hi hiz).bind (.pure _ _)
            obtain ⟨base, len, cap, rfl, hok⟩ := appendTo_ok r hz hs (flats_rel (repeatL_all hfl l.toNat)) (fun w₂ _ => hA w₂) e
            obtain ⟨v', w', θ', a, b⟩ := hok (.int k l) true
            refine ⟨v', w', θ', ?_, b⟩
            refine (run_under hu).bind ((run_sizeT hsize).bind ((run_under hd).bind ?_))
            refine Runs.bind (a := isIntD d) (w₁ := w) (.pure _ _) ?_
            rw [hint]
            have hw : IntKind.i64.wrap l = l := wrap_i64 (by omega) (by omega)
            refine Runs.bind (a := l) (w₁ := w) (Runs.bind (.pure _ _) (.pure _ _)) ?_
            show Runs P (if IntKind.i64.wrap l < 0 then _ else _) w _ w'
            rw [hw, if_neg (by omega)]
            refine (run_info hi).bind ?_
            rw [hby, if_neg (by
              have : l = (l.toNat : Int) := by omega
              have e2 : (2 ^ 48 : Int) = ((2 ^ 48 : Nat) : Int) := by norm_cast
              rw [this, e2]
              have : ((l.toNat : Int) * (bytes : Int)) = ((l.toNat * bytes : Nat) : Int) := by push_cast; rfl
              rw [this]
              omega)]
            exact Runs.bind (.pure _ _) a
        · cases e
end
end Go.AM
end
