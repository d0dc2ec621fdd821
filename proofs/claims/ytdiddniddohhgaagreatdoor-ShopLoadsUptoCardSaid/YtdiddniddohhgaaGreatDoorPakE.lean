/- Loads, each item into the first one with room: three rows that grow beside each other. -/
import Derived.Test.YtdiddniddohhgaaGreatDoorFewG
namespace Go.Proofs
open Go.RowKit Go.MapKept
set_option maxHeartbeats 16000000
set_option maxRecDepth 1000000
def encS (s : ByteArray) : List Value := [.string s]
theorem encS_len : ∀ t, (encS t).length = 1 := fun _ => rfl
theorem encS_one : ∀ t, ∀ u ∈ encS t, u.oneCell' = true := fun t u hu => by
  obtain rfl : u = .string t := by simpa [encS] using hu
  rfl
theorem ownI_blk {T : TypeId} {w : World} {B : Nat} {A2 : Option Addr} {n c2 : Nat} {v : Value} {l : List Int} (h : (∃ g, A2 = some ⟨g, 0, none⟩ ∧ v = .slice (some ⟨g, 0, none⟩) l.length c2) ∨ A2 = some ⟨w.heap.size, 0, none⟩) (_ : OwnI T w B v l) : (Value.slice A2 n c2).ownBlock = v.ownBlock ∨ (Value.slice A2 n c2).ownBlock = some w.heap.size := by
  rcases h with ⟨g, rfl, rfl⟩ | rfl
  · exact .inl rfl
  · exact .inr rfl
/-- The numbers, the rooms and the programs so far. -/
structure R3 (w : World) (B : Nat) (nv rv pv : Value) (ns rs : List Int) (ps : List ByteArray) : Prop where
  n : OwnI 3 w B nv ns
  r : OwnI 3 w B rv rs
  p : OwnF encS 1 9 w B pv ps
  nr : ∀ g, nv.ownBlock = some g → rv.ownBlock ≠ some g
  np : ∀ g, nv.ownBlock = some g → pv.ownBlock ≠ some g
  rp : ∀ g, rv.ownBlock = some g → pv.ownBlock ≠ some g
theorem R3.below {w w' : World} {B : Nat} {nv rv pv : Value} {ns rs : List Int} {ps : List ByteArray} (h : R3 w B nv rv pv ns rs ps) (hb : Below w.heap.size w w') : R3 w' B nv rv pv ns rs ps := ⟨h.n.keep hb, h.r.keep hb, h.p.keep hb, h.nr, h.np, h.rp⟩
theorem R3.nil (w : World) (B : Nat) : R3 w B (.slice none 0 0) (.slice none 0 0) (.slice none 0 0) [] [] [] := ⟨OwnI.nil _ _ _, OwnI.nil _ _ _, OwnF.nil _ _ _, fun g e => (by cases e), fun g e => (by cases e), fun g e => (by cases e)⟩
theorem R3.putR {w w' : World} {B : Nat} {nv rv pv rv' : Value} {ns rs rs' : List Int} {ps : List ByteArray} (h : R3 w B nv rv pv ns rs ps) (ho : OwnI 3 w' B rv' rs') (hg : w.grownBy w' rv.ownBlock) (hn : rv'.ownBlock = rv.ownBlock ∨ rv'.ownBlock = some w.heap.size) : R3 w' B nv rv' pv ns rs' ps := by
  have l1 := h.n.lt
  have l2 := h.p.lt
  refine ⟨h.n.keepB fun g e => hg.block g (l1 g e).2 fun e2 => h.nr g e e2.symm, ho, h.p.keepB fun g e => hg.block g (l2 g e).2 fun e2 => h.rp g e2.symm e, fun g e e2 => ?_, h.np, fun g e e2 => ?_⟩
  · rcases hn with hn | hn
    · exact h.nr g e (hn ▸ e2)
    · rw [hn] at e2
      obtain rfl := Option.some.inj e2
      have := (l1 _ e).2
      omega
  · rcases hn with hn | hn
    · exact h.rp g (hn ▸ e) e2
    · rw [hn] at e
      obtain rfl := Option.some.inj e
      have := (l2 _ e2).2
      omega
theorem R3.putN {w w' : World} {B : Nat} {nv rv pv nv' : Value} {ns rs ns' : List Int} {ps : List ByteArray} (h : R3 w B nv rv pv ns rs ps) (ho : OwnI 3 w' B nv' ns') (hg : w.grownBy w' nv.ownBlock) (hn : nv'.ownBlock = nv.ownBlock ∨ nv'.ownBlock = some w.heap.size) : R3 w' B nv' rv pv ns' rs ps := by
  have l1 := h.r.lt
  have l2 := h.p.lt
  refine ⟨ho, h.r.keepB fun g e => hg.block g (l1 g e).2 fun e2 => h.nr g e2.symm e, h.p.keepB fun g e => hg.block g (l2 g e).2 fun e2 => h.np g e2.symm e, fun g e e2 => ?_, fun g e e2 => ?_, h.rp⟩
  · rcases hn with hn | hn
    · exact h.nr g (hn ▸ e) e2
    · rw [hn] at e
      obtain rfl := Option.some.inj e
      have := (l1 _ e2).2
      omega
  · rcases hn with hn | hn
    · exact h.np g (hn ▸ e) e2
    · rw [hn] at e
      obtain rfl := Option.some.inj e
      have := (l2 _ e2).2
      omega
theorem R3.putP {w w' : World} {B : Nat} {nv rv pv pv' : Value} {ns rs : List Int} {ps ps' : List ByteArray} (h : R3 w B nv rv pv ns rs ps) (ho : OwnF encS 1 9 w' B pv' ps') (hg : w.grownBy w' pv.ownBlock) (hn : pv'.ownBlock = pv.ownBlock ∨ pv'.ownBlock = some w.heap.size) : R3 w' B nv rv pv' ns rs ps' := by
  have l1 := h.n.lt
  have l2 := h.r.lt
  refine ⟨h.n.keepB fun g e => hg.block g (l1 g e).2 fun e2 => h.np g e e2.symm, h.r.keepB fun g e => hg.block g (l2 g e).2 fun e2 => h.rp g e e2.symm, ho, h.nr, fun g e e2 => ?_, fun g e e2 => ?_⟩
  · rcases hn with hn | hn
    · exact h.np g e (hn ▸ e2)
    · rw [hn] at e2
      obtain rfl := Option.some.inj e2
      have := (l1 _ e).2
      omega
  · rcases hn with hn | hn
    · exact h.rp g e (hn ▸ e2)
    · rw [hn] at e2
      obtain rfl := Option.some.inj e2
      have := (l2 _ e).2
      omega
theorem iat_one {w : World} {g : Nat} {x : Int} (hrow : RowK w 3 g [.int .i64 x]) : IAt w g 0 [x] := fun i y hi => by
  match i, hi with
  | 0, hi =>
    obtain rfl : x = y := by simpa using hi
    exact hrow.cell (by rfl)
  | i + 1, hi => simp at hi
/-- A room more. -/
theorem R3.appR {w : World} {B : Nat} {nv rv pv : Value} {ns rs : List Int} {ps : List ByteArray} (h : R3 w B nv rv pv ns rs ps) {g : Nat} {x : Int} (hrow : RowK w 3 g [.int .i64 x]) (hn : rs.length ≤ 1000) (hB : B ≤ w.heap.size) :
    ∃ A2 c2 w', (Builtin.append_ #[23, 23] 23 #[rv, .slice (some ⟨g, 0, none⟩) 1 1]).run Tryz.prog w = .ok (.slice A2 (rs.length + 1) c2) w' ∧ R3 w' B nv (.slice A2 (rs.length + 1) c2) pv ns (rs ++ [x]) ps ∧ w.grownBy w' rv.ownBlock ∧ Below B w w' := by
  obtain ⟨A2, c2, w', h1, h2, h3, -, h5⟩ := run_append_ints w 23 B rv rs [x] h.r g 0 1 (iat_one hrow) (by simp) (by simp; omega) hB
  exact ⟨A2, c2, w', h1, h.putR h2 h3 (ownI_blk h5 h.r), h3, (Below.refl _ _).grown h3 hB fun k e => (h.r.lt k e).1⟩
/-- A number more. -/
theorem R3.appN {w : World} {B : Nat} {nv rv pv : Value} {ns rs : List Int} {ps : List ByteArray} (h : R3 w B nv rv pv ns rs ps) {g : Nat} {x : Int} (hrow : RowK w 3 g [.int .i64 x]) (hn : ns.length ≤ 1000) (hB : B ≤ w.heap.size) :
    ∃ A2 c2 w', (Builtin.append_ #[23, 23] 23 #[nv, .slice (some ⟨g, 0, none⟩) 1 1]).run Tryz.prog w = .ok (.slice A2 (ns.length + 1) c2) w' ∧ R3 w' B (.slice A2 (ns.length + 1) c2) rv pv (ns ++ [x]) rs ps ∧ w.grownBy w' nv.ownBlock ∧ Below B w w' := by
  obtain ⟨A2, c2, w', h1, h2, h3, -, h5⟩ := run_append_ints w 23 B nv ns [x] h.n g 0 1 (iat_one hrow) (by simp) (by simp; omega) hB
  exact ⟨A2, c2, w', h1, h.putN h2 h3 (ownI_blk h5 h.n), h3, (Below.refl _ _).grown h3 hB fun k e => (h.n.lt k e).1⟩
/-- A program more. -/
theorem R3.appP {w : World} {B : Nat} {nv rv pv : Value} {ns rs : List Int} {ps : List ByteArray} (h : R3 w B nv rv pv ns rs ps) {g : Nat} {x : ByteArray} (hrow : RowK w 9 g [.string x]) (hn : ps.length ≤ 1000) (hB : B ≤ w.heap.size) :
    ∃ A2 c2 w', (Builtin.append_ #[44, 44] 44 #[pv, .slice (some ⟨g, 0, none⟩) 1 1]).run Tryz.prog w = .ok (.slice A2 (ps.length + 1) c2) w' ∧ R3 w' B nv rv (.slice A2 (ps.length + 1) c2) ns rs (ps ++ [x]) ∧ w.grownBy w' pv.ownBlock ∧ Below B w w' := by
  obtain ⟨A2, c2, w', h1, h2, h3, h5⟩ := run_append_one (P := Tryz.prog) w 44 44 9 B pv ps x encS_len encS_one h.p g 1 16 (.string ⟨#[]⟩) Tryz.underlying44 (by kernel_rfl) rfl (by decide) (by decide) (flat_rowQ hrow) (by omega) hB
  exact ⟨A2, c2, w', h1, h.putP h2 h3 h5, h3, (Below.refl _ _).grown h3 hB fun k e => (h.p.lt k e).1⟩
theorem str_cell {T : TypeId} {w : World} {B : Nat} {v : Value} {s : List ByteArray} (h : OwnF encS 1 T w B v s) {k : Nat} {o : ByteArray} (hk : s[k]? = some o) :
    ∃ g cap, v = .slice (some ⟨g, 0, none⟩) s.length cap ∧ B ≤ g ∧ g < w.heap.size ∧ w.cell? ⟨g, k, none⟩ = some (.string o) := by
  rcases h.form encS_len with ⟨-, rfl⟩ | ⟨g, cap, rfl, h1, h2, h3⟩
  · simp at hk
  · have e0 := h3 (k * 1) (.string o) (by have := flatF_get encS_len (j := 0) hk (by omega); rw [Nat.add_zero] at this; rw [this]; rfl)
    rw [Nat.zero_add, Nat.mul_one] at e0
    exact ⟨g, cap, rfl, h1, h2, e0⟩
theorem int_cell {T : TypeId} {w : World} {B : Nat} {v : Value} {s : List Int} (h : OwnI T w B v s) {k : Nat} {o : Int} (hk : s[k]? = some o) :
    ∃ g cap, v = .slice (some ⟨g, 0, none⟩) s.length cap ∧ B ≤ g ∧ g < w.heap.size ∧ w.cell? ⟨g, k, none⟩ = some (.int .i64 o) ∧ ∀ q, w.frozen? ⟨g, q, none⟩ = false := by
  have h0 := h
  rcases h.2 with ⟨-, h2⟩ | ⟨g, cap, cur, rfl, h1, hg, h3⟩
  · have : s = [] := List.eq_nil_of_length_eq_zero h2
    rw [this] at hk
    simp at hk
  · have hat := OwnI.at_ h0 rfl
    have e0 := hat k o hk
    rw [Nat.zero_add] at e0
    exact ⟨g, cap, rfl, h1, (Array.getElem?_eq_some_iff.1 hg).1, e0, fun q => frozen_of_row w g q _ _ hg⟩
/-- The rooms of some loads. -/
def roomsL (cp : Int) (s : List LoadT) : List Int := s.map fun o => cp - o.2
def progsL (s : List LoadT) : List ByteArray := s.map fun o => o.1
theorem roomsL_len (cp : Int) (s : List LoadT) : (roomsL cp s).length = s.length := by simp [roomsL]
theorem progsL_len (s : List LoadT) : (progsL s).length = s.length := by simp [progsL]
theorem roomsL_get {cp : Int} {s : List LoadT} {k : Nat} {o : LoadT} (h : s[k]? = some o) : (roomsL cp s)[k]? = some (cp - o.2) := by unfold roomsL; rw [List.getElem?_map, h]; rfl
theorem progsL_get {s : List LoadT} {k : Nat} {o : LoadT} (h : s[k]? = some o) : (progsL s)[k]? = some o.1 := by unfold progsL; rw [List.getElem?_map, h]; rfl
theorem roomsL_app (cp : Int) (s : List LoadT) (pr : ByteArray) : roomsL cp (s ++ [(pr, 0)]) = roomsL cp s ++ [cp] := by simp [roomsL]
theorem progsL_app (s : List LoadT) (pr : ByteArray) : progsL (s ++ [(pr, 0)]) = progsL s ++ [pr] := by simp [progsL]
theorem roomsL_set {cp : Int} {s : List LoadT} {k : Nat} {pr : ByteArray} {v : Int} : roomsL cp (s.set k (pr, v)) = (roomsL cp s).set k (cp - v) := by unfold roomsL; rw [List.map_set]
theorem progsL_set {s : List LoadT} {k : Nat} {pr : ByteArray} {v : Int} {o : LoadT} (h : s[k]? = some o) (he : o.1 = pr) : progsL (s.set k (pr, v)) = progsL s := by
  unfold progsL
  rw [List.map_set]
  refine List.ext_getElem? fun i => ?_
  by_cases hi : i = k
  · subst hi
    rw [List.getElem?_set_self (by rw [List.length_map]; exact (List.getElem?_eq_some_iff.1 h).1), List.getElem?_map, h]
    show some pr = some o.1
    rw [he]
  · rw [List.getElem?_set_ne (fun e => hi e.symm)]
theorem iteX_is (cp : Int) (l : List ItemT) : ∃ n, IteX cp l n := by
  by_cases h1 : 64 < l.length
  · exact ⟨5, .inl ⟨h1, rfl⟩⟩
  · by_cases h2 : withinI cp 1 999999999 = 0
    · have key : ∀ k, PreE l (iteE cp l) k ∨ ∃ e, ScanE l (iteE cp l) e := fun k => by
        induction k with
        | zero => exact .inl (PreE.zero _ _)
        | succ k ih =>
          rcases ih with h | h
          · cases hk : l[k]? with
            | none =>
              refine .inl fun j s hj hs => ?_
              rcases Nat.lt_or_eq_of_le (Nat.le_of_lt_succ hj) with h3 | rfl
              · exact h j s h3 hs
              · rw [hk] at hs; cases hs
            | some t =>
              by_cases he : iteE cp l k t = 0
              · exact .inl (h.step hk he)
              · exact .inr ⟨_, h.bad hk he⟩
          · exact .inr h
      rcases key l.length with h | ⟨e, h⟩
      · exact ⟨0, .inr ⟨by omega, .inr ⟨h2, h.done (Nat.le_refl _)⟩⟩⟩
      · exact ⟨e, .inr ⟨by omega, .inr ⟨h2, h⟩⟩⟩
    · exact ⟨3, .inr ⟨by omega, .inl ⟨h2, rfl⟩⟩⟩
theorem chkV_ok {cp : Int} {l : List ItemT} {y : List Int} {s : List LoadT} (hyl : y.length = l.length) (hy : packP cp l y = (0, s)) (hx : IteX cp l 0) (v vn : Value) (w : World) (hl : SlF encQ w v l) (hi : SlI w vn y) :
    Calls Tryz.prog 8 #[v, .int .i64 cp, vn] w fun e w' => e = .returned (.tuple #[.int .i64 s.length, .int .i64 0]) ∧ Below w.heap.size w w' := by
  have h := chkLoads_ok cp 0 l y v vn w hl hi hx
  rw [if_pos rfl] at h
  have e : chkL cp l y = ((s.length : Int), 0) := by unfold chkL; rw [if_neg (fun h => h hyl), hy]
  rw [e] at h
  exact h
/-- The load that an item goes into. -/
theorem fit_facts {cp : Int} {s : List LoadT} {x : ItemT} (hx : x.2.2 ≤ cp) {f : Nat} (hf : f = fitK cp s x s.length) : f ≤ s.length ∧ ∃ o : LoadT, (growL s x f)[f]? = some o ∧ o.1 = x.2.1 ∧ o.2 + x.2.2 ≤ cp ∧ stepL cp (0, s) x f = (0, (growL s x f).set f (x.2.1, o.2 + x.2.2)) ∧ ((f = s.length ∧ growL s x f = s ++ [(x.2.1, 0)]) ∨ (f < s.length ∧ growL s x f = s)) := by
  have h := fit_step (s := s) hx
  rw [← hf] at h
  obtain ⟨h0, h1, h2, h3, -⟩ := stepL_ok h
  obtain ⟨g1, g2⟩ := growL_at (x := x) h0 h1
  rw [Int.toNat_natCast] at g1
  refine ⟨by omega, _, g1, h2, h3, h, ?_⟩
  rcases g2 with ⟨a, b⟩ | ⟨a, b⟩
  · exact .inl ⟨by omega, b⟩
  · exact .inr ⟨by omega, b⟩
theorem rowK_grown {w w' : World} {T : TypeId} {g : Nat} {cs : List Value} {row : Option Nat} (h : RowK w T g cs) (hg : w.grownBy w' row) (hne : row ≠ some g) : RowK w' T g cs := h.keep (hg.block g h.lt fun e => hne e.symm)
theorem grown_set (w : World) (g i : Nat) (v : Value) : w.grownBy (w.setCell ⟨g, i, none⟩ v) (some g) :=
  ⟨rfl, rfl, rfl, by simp [World.setCell], fun k _ hne => Below.heap_setCell w ⟨g, i, none⟩ v k fun e => hne (by rw [e])⟩
theorem step_appD {w w' : World} {ops : Array Oper} {o : Oper} {a : Act} {K : Act → World → Prop} {Q : Exit → Act → World → Prop} {E : Prop} (hgd : o.guard = none) (s x : Operand) (T : TypeId)
    (ho : o.op = .call { callee := .builtin .append, args := #[s, x], argTypes := #[T, T] }) (vs vx r : Value) (hs : a.eval s = vs) (hx : a.eval x = vx) (hr : (Builtin.append_ #[T, T] o.type #[vs, vx]).run Tryz.prog w = .ok r w')
    (d : Option Tmp) (hd : o.dst = d) (h : K (a.put d r) w') : if Region.wanted o (yielded ops a.tmps) = true then Oper.wp Tryz.prog o a w K Q else E := by
  have hw : Region.wanted o (yielded ops a.tmps) = true := by simp [Region.wanted, hgd]
  rw [if_pos hw]
  unfold Oper.wp execOp
  simp only [ho, resolve, invoke, builtin, Sem.run_bind, Sem.run_pure, Result.andThen_ok, List.map_toArray, List.map_cons, List.map_nil, hs, hx, hr]
  rw [← hd] at h
  exact h
end Go.Proofs
