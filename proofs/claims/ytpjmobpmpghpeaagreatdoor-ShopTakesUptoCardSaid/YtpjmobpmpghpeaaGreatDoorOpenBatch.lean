import Derived.Test.YtpjmobpmpghpeaaGreatDoorRows
import Derived.WalkKit
import Derived.ProofKit
import Derived.OpenShut
import Derived.Test.YtpjmobpmpghpeaaGreatDoorAwkS
import Derived.Lib.LaidTab
import Derived.Stop.LaidErr
import Derived.MakeChecks
import Derived.LaidMore
import Derived.Test.YtpjmobpmpghpeaaGreatDoorShdP
import Derived.Deep.Slices
import Derived.Deep.Fields
import Derived.ChangeSame
import Derived.Test.YtpjmobpmpghpeaaGreatDoorBatL
section
/- What a law's row asks behind the call, from the contract 'true, and all that was there is as it was'. -/
namespace Go.Proofs.YtpjmobpmpghpeaaGreatDoor
open Go.ChangeShapes Go.WideShapes Go.ChangeAt Go.RowKit
theorem law_post {H : Type} {enc : TypeId × Value → H} {P : Program} {f : Func} {s : ChangeSpec} {o1 o2 o3 o4 : Bool} {W W' : World} {args : Array Value} {ds : List (DataW H)} {pl : List MemPlace} {T : TypeId}
    (hW : DataW.Whole enc P f.params.toList s.vars o1 W args.toList ds [] pl) (hT : f.resultTypes = #[T]) (hv : s.vars = [])
    (hB : P.underlying T = some .bool) (hs : s.fn H (ds ++ []) = { results := [.lit (.bool true)], args := ds })
    (ha : ∀ sp : Nat → Bool, (∀ p ∈ pl, sp p.block = true) → DataW.TrodAll enc P W' 0 sp true f.params.toList args.toList ds pl)
    (hb : Below W.heap.size W W') : s.post enc P f o1 o2 o3 o4 W args (.bool true) W' := by
  have hin : ∀ p, p ∈ pl → p.block < W.heap.size := fun p hp => hW.lt p hp
  have hr : ∀ (b : Nat) (sp : Nat → Bool) (h : Bool), DataW.TrodAll enc P W' b sp h f.resultTypes.toList ((Value.bool true).resultList f.resultTypes.size) (s.fn H (ds ++ [])).results [] := fun b sp h => by
    rw [hT, hs]
    exact trodAll_cons_mk (shut_bool hB _) trodAll_mk0
  have ha' : ∀ sp : Nat → Bool, (∀ p ∈ pl, sp p.block = true) → DataW.TrodAll enc P W' 0 sp true f.params.toList args.toList (s.fn H (ds ++ [])).args pl := by
    rw [hs]
    exact ha
  have hvs : ∀ sp : Nat → Bool, DataW.TrodVars enc P W' sp s.vars (s.fn H (ds ++ [])).vars [] := fun sp => by
    rw [hs, hv]
    exact rfl
  refine ⟨ds, [], pl, [], pl, [], hW, hr _ _ _, ha' _ (fun p hp => decide_eq_true (hin p hp)), hvs _, World.keptBut_mono (fun p hp => ⟨hp, .inr (.inl hp)⟩) (hb.frame _), fun _ => ⟨?_, ?_⟩⟩
  · exact ok_one hT rfl (okWide_bool_mk hB _)
  · have hall := trodAll_append (ha' (fun _ => true) (fun _ _ => rfl)) (hr 0 (fun _ => true) true)
    obtain ⟨_, _, _, _, _, hz, hn⟩ := hW
    refine ⟨_, _, [] ++ pl ++ [], ⟨[] ++ pl, [], hall, hvs _, rfl, fun b off hp => ?_, fun e => ?_⟩, fun p hp _ => ?_⟩
    · have hp' : MemPlace.cell b off ∈ pl := by simpa using hp
      rw [hb.frozen (p := ⟨b, off, none⟩) (hin _ hp')]
      exact hz b off hp'
    · have := hn e
      simpa using this
    · simpa using hp
end Go.Proofs.YtpjmobpmpghpeaaGreatDoor
end

section
/- What the listed variables give: the table of powers of ten. -/
namespace Go.Proofs.YtpjmobpmpghpeaaGreatDoor
open Go.AM Go.RowKit
set_option maxRecDepth 1000000
def pow10Z : List Int := [1, 10, 100, 1000, 10000, 100000, 1000000, 10000000, 100000000, 1000000000, 10000000000, 100000000000, 1000000000000, 10000000000000, 100000000000000, 1000000000000000, 10000000000000000, 100000000000000000, 1000000000000000000, 10000000000000000000]
theorem gok_of {W : World} {n1 n2 n3 : String} {d1 d2 : DataW Unit} (h3 : Tryz.prog.globalNamed n3 = some 1) (h : laidMet Tryz.prog [(n1, d1), (n2, d2), (n3, Rows.laid_internal_strconv_uint64pow10)] W) : GOk gN gRows W := by
  have h' : laidMet Tryz.prog ((n3, Lib.tabData .u64 pow10Z) :: []) W := h.tail.tail
  have hT := Lib.tabIs_of_head h3 (show (Tryz.prog.globals[1]?).map (·.type) = some 306 by kernel_rfl) Tryz.underlying306 Tryz.underlying235 (by kernel_rfl) (by kernel_rfl) h'
  have hc := fun i hi => hT.cell h3 i hi
  have h0 := hc 0 (by decide)
  have hlt : 1 < W.heap.size := by
    unfold World.cell? at h0
    split at h0
    · rename_i hh
      exact (Array.getElem?_eq_some_iff.1 hh).1
    · cases h0
  refine ⟨hlt, fun r hr => ?_⟩
  obtain rfl := List.mem_singleton.1 hr
  refine ⟨Nat.lt_succ_self _, gRows_flat _ (List.mem_singleton.2 rfl), fun k v hk => ?_⟩
  have hk' : k < pow10Z.length := (List.getElem?_eq_some_iff.1 hk).1
  have := hc k hk'
  rw [this]
  have e : (pow10L)[k]? = some (.int .u64 (pow10Z.getD k 0)) := by
    have : pow10L = pow10Z.map fun n => Value.int .u64 n := rfl
    rw [this, List.getElem?_map, List.getElem?_eq_getElem hk']
    simp [List.getD, List.getElem?_eq_getElem hk']
  exact (e.symm.trans hk).symm ▸ rfl
end Go.Proofs.YtpjmobpmpghpeaaGreatDoor
end

section
/- Arguments that are a guide, a colour or a tab. -/
namespace Go.Proofs.YtpjmobpmpghpeaaGreatDoor
open Go.ChangeShapes Go.WideShapes Go.Deep Go.RowKit
set_option maxRecDepth 100000
theorem list_of {α : Type} (Q : Nat → α → Prop) : ∀ n : Nat, (∀ i, i < n → ∃ c, Q i c) → ∃ l : List α, l.length = n ∧ ∀ i c, l[i]? = some c → Q i c
  | 0, _ => ⟨[], rfl, fun i c h => by simp at h⟩
  | n + 1, h => by
    obtain ⟨l, h1, h2⟩ := list_of Q n fun i hi => h i (Nat.lt_succ_of_lt hi)
    obtain ⟨c, hc⟩ := h n (Nat.lt_succ_self n)
    refine ⟨l ++ [c], by simp [h1], fun i d hd => ?_⟩
    rcases Nat.lt_or_ge i l.length with hi | hi
    · rw [List.getElem?_append_left hi] at hd
      exact h2 i d hd
    · rw [List.getElem?_append_right hi] at hd
      have h3 : i - l.length = 0 := by
        rcases Nat.eq_zero_or_pos (i - l.length) with h | h
        · exact h
        · rw [List.getElem?_eq_none (by simp; omega)] at hd; cases hd
      rw [h3] at hd
      obtain rfl : c = d := by simpa using hd
      have : i = n := by omega
      rw [this]
      exact hc
theorem bulk_pos {H : Type} : ∀ d : DataW H, 1 ≤ Rows.uptoBulk d
  | .lit l => by cases l <;> simp [Rows.uptoBulk]
  | .nil => by simp [Rows.uptoBulk]
  | .ptr d => by simp [Rows.uptoBulk]
  | .slice e s => by simp [Rows.uptoBulk]
  | .agg p => by simp [Rows.uptoBulk]
  | .iface _ d => by simp [Rows.uptoBulk]
  | .map e => by simp [Rows.uptoBulk]
  | .held _ => by simp [Rows.uptoBulk]
theorem bulk_len {H : Type} : ∀ ds : List (DataW H), ds.length ≤ Rows.uptoBulkAll ds
  | [] => by simp
  | d :: ds => by
    have h1 := bulk_pos d
    have h2 := bulk_len ds
    simp only [Rows.uptoBulkAll, List.length_cons]
    omega
theorem bulk_mem {H : Type} {d : DataW H} : ∀ {ds : List (DataW H)} {i : Nat}, ds[i]? = some d → Rows.uptoBulk d ≤ Rows.uptoBulkAll ds
  | [], i, h => by simp at h
  | x :: ds, 0, h => by
    obtain rfl : x = d := by simpa using h
    simp only [Rows.uptoBulkAll]
    omega
  | x :: ds, i + 1, h => by
    have := bulk_mem (ds := ds) (i := i) (d := d) (by simpa using h)
    simp only [Rows.uptoBulkAll]
    omega
theorem okWide_array {P : Program} {w : World} {r : Reach} {base n : Nat} {t e : TypeId} {v : Value} (ht : P.underlying t = some (.array n e)) (h : Value.okWide P w r base t v) : ∃ cs, v = .agg cs ∧ cs.size = P.cellsOf t := by
  simp only [Value.okWide, ht] at h
  obtain ⟨cs, h1, h2, _⟩ := h
  exact ⟨cs, h1, h2⟩
section
variable {H : Type} {enc : TypeId × Value → H} {w : World}
theorem open_int1 {n : Nat} {u : Value} {y : DataW H × List MemPlace} (h : DataW.trod enc Tryz.prog w 0 (fun _ => true) true n 3 [u] = some y) : ∃ x : Int, u = .int .i64 x := by
  obtain ⟨x, hx, _⟩ := DataW.trod_int Tryz.underlying3 h
  exact ⟨x, by simpa using hx⟩
theorem open_col1 {n : Nat} {c0 c1 c2 : Value} {y : DataW H × List MemPlace} (h : DataW.trod enc Tryz.prog w 0 (fun _ => true) true n 47 [c0, c1, c2] = some y) : ∃ c : Cel, c0 = .int .i64 c.1 ∧ c1 = .int .i64 c.2.1 ∧ c2 = .int .i64 c.2.2 := by
  have h1 : Tryz.prog.cellsOf 3 = 1 := by kernel_rfl
  obtain ⟨xs, m, _, _, _, hlen, hg⟩ := DataW.trod_array Tryz.underlying47 h
  have g0 := hg 0 (by omega)
  have g1 := hg 1 (by omega)
  have g2 := hg 2 (by omega)
  rw [h1] at g0 g1 g2
  match xs, hlen with
  | [y0, y1, y2], _ =>
    obtain ⟨x0, rfl⟩ := open_int1 (y := y0) g0
    obtain ⟨x1, rfl⟩ := open_int1 (y := y1) g1
    obtain ⟨x2, rfl⟩ := open_int1 (y := y2) g2
    exact ⟨(x0, x1, x2), rfl, rfl, rfl⟩
theorem open_tab1 {n : Nat} {cs : List Value} {y : DataW H × List MemPlace} (h : DataW.trod enc Tryz.prog w 0 (fun _ => true) true n 76 cs = some y) (hl : cs.length = 4) : ∃ t : TabT, cs = encT t := by
  obtain ⟨f0, f1, he, k0, k1, o0, o1, hs, h3⟩ : ∃ f0 f1 : Field, Tryz.prog.underlying 76 = some (.struct #[f0, f1]) ∧ f0.type = 9 ∧ f1.type = 47 ∧ f0.offset = 0 ∧ f1.offset = 1 ∧ Tryz.prog.cellsOf 9 = 1 ∧ Tryz.prog.cellsOf 47 = 3 :=
    ⟨_, _, Tryz.underlying76, rfl, rfl, rfl, rfl, by kernel_rfl, by kernel_rfl⟩
  match cs, hl with
  | [c0, c1, c2, c3], _ =>
    obtain ⟨xs, m, _, _, _, hlen, hg⟩ := DataW.trod_struct he h
    have g0 := hg 0 f0 rfl
    have g1 := hg 1 f1 rfl
    rw [k0, o0, hs] at g0
    rw [k1, o1, h3] at g1
    match xs, hlen with
    | [y0, y1], _ =>
      obtain ⟨s, hs', _⟩ := DataW.trod_string (x := y0) Tryz.underlying9 g0
      obtain ⟨c, rfl, rfl, rfl⟩ := open_col1 (y := y1) g1
      obtain rfl : c0 = .string s := by simpa using hs'
      exact ⟨(s, c), rfl⟩
theorem open_tabs1 {n : Nat} {u : Value} {y : DataW H × List MemPlace} (h : DataW.trod enc Tryz.prog w 0 (fun _ => true) true n 48 [u] = some y) : ∃ l : List TabT, SlT w u l ∧ l.length ≤ Rows.uptoBulk y.1 := by
  have hC : Tryz.prog.cellsOf 76 = 4 := by kernel_rfl
  rcases open_slice Tryz.underlying48 h with ⟨hcs, hx⟩ | ⟨a, len, cap, m, n', D, Pl, hcs, hb, hl, hm, hmm, hx, hi⟩
  · obtain rfl : u = .slice none 0 0 := by simpa using hcs
    exact ⟨[], .inl ⟨rfl, rfl⟩, by simp⟩
  · obtain rfl : u = .slice (some a) len cap := by simpa using hcs
    simp only [if_true] at hmm
    subst hmm
    have hcel : ∀ i, i < len → ∃ t : TabT, w.cell? (a.add (i * 4)) = some (.string t.1) ∧ w.cell? (a.add (i * 4 + 1)) = some (.int .i64 t.2.1) ∧ w.cell? (a.add (i * 4 + 2)) = some (.int .i64 t.2.2.1) ∧ w.cell? (a.add (i * 4 + 3)) = some (.int .i64 t.2.2.2) := fun i hin => by
      obtain ⟨cs', hc, ht'⟩ := hi i (by omega)
      rw [hC] at hc
      obtain ⟨_, hcl, hat⟩ := World.cells?_some hc
      obtain ⟨t, rfl⟩ := open_tab1 ht' hcl
      have h0 := hat 0 (by omega)
      have h1 := hat 1 (by omega)
      have h2 := hat 2 (by omega)
      have h3 := hat 3 (by omega)
      rw [Go.Deep.add_add] at h0 h1 h2 h3
      exact ⟨t, h0, h1, h2, h3⟩
    obtain ⟨l, hlen, hl'⟩ := list_of _ len hcel
    refine ⟨l, .inr ⟨a, m, by rw [hlen], fun hne => ?_⟩, ?_⟩
    · obtain ⟨c, hc⟩ : ∃ c, l[0]? = some c := ⟨_, List.getElem?_eq_getElem (List.length_pos_iff.2 hne)⟩
      have hc0 := (hl' 0 c hc).1
      obtain ⟨b, o, sp⟩ := a
      obtain rfl : sp = none := by simpa [Addr.add] using World.cell?_spot hc0
      have hadd : ∀ k : Nat, (⟨b, o, none⟩ : Addr).add k = ⟨b, o + k, none⟩ := fun k => by
        unfold Addr.add
        split
        · simp_all
        · rfl
      refine ⟨rfl, ?_, fun i t hit => ?_⟩
      · rcases Nat.lt_or_ge b w.heap.size with h | h
        · exact h
        · simp [World.cell?, Addr.add, Array.getElem?_eq_none h] at hc0
      · obtain ⟨r0, r1, r2, r3⟩ := hl' i t hit
        rw [hadd] at r0 r1 r2 r3
        exact ⟨r0, r1, r2, r3⟩
    · subst hx
      have hb := bulk_len ((List.range len).map D)
      simp only [Rows.uptoBulk]
      rw [List.length_map, List.length_range] at hb
      omega
theorem open_guide {v : Value} {d : DataW H} {p : List MemPlace} (h : DataW.Trod enc Tryz.prog w 0 (fun _ => true) true 50 v d p) (hv : ∃ cs, v = .agg cs ∧ cs.size = Tryz.prog.cellsOf 50) :
    ∃ (ws : Cel) (u : Value) (l : List TabT), v = .agg #[.int .i64 ws.1, .int .i64 ws.2.1, .int .i64 ws.2.2, u] ∧ SlT w u l ∧ l.length ≤ Rows.uptoBulk d := by
  obtain ⟨cs, rfl, hsz⟩ := hv
  obtain ⟨fuel, hf⟩ := h
  obtain ⟨f0, f1, he, k0, k1, o0, o1, h3, hs, h4⟩ : ∃ f0 f1 : Field, Tryz.prog.underlying 50 = some (.struct #[f0, f1]) ∧ f0.type = 47 ∧ f1.type = 48 ∧ f0.offset = 0 ∧ f1.offset = 3 ∧ Tryz.prog.cellsOf 47 = 3 ∧ Tryz.prog.cellsOf 48 = 1 ∧ Tryz.prog.cellsOf 50 = 4 :=
    ⟨_, _, Tryz.underlying50, rfl, rfl, rfl, rfl, by kernel_rfl, by kernel_rfl, by kernel_rfl⟩
  obtain ⟨l⟩ := cs
  match l, hsz.trans h4 with
  | [c0, c1, c2, c3], _ =>
    obtain ⟨xs, m, _, hx, _, hlen, hg⟩ := DataW.trod_struct he hf
    have g0 := hg 0 f0 rfl
    have g1 := hg 1 f1 rfl
    rw [k0, o0, h3] at g0
    rw [k1, o1, hs] at g1
    match xs, hlen with
    | [y0, y1], _ =>
      obtain ⟨c, rfl, rfl, rfl⟩ := open_col1 (y := y0) g0
      obtain ⟨tl, ht, hb⟩ := open_tabs1 (y := y1) g1
      refine ⟨c, c3, tl, rfl, ht, ?_⟩
      simp only [Prod.mk.injEq] at hx
      rw [hx.1]
      simp only [Rows.uptoBulk, Rows.uptoBulkAll, List.map_cons, List.map_nil]
      omega
theorem open_col {v : Value} {d : DataW H} {p : List MemPlace} (h : DataW.Trod enc Tryz.prog w 0 (fun _ => true) true 47 v d p) (hv : ∃ cs, v = .agg cs ∧ cs.size = Tryz.prog.cellsOf 47) :
    ∃ c : Cel, v = colV c := by
  obtain ⟨cs, rfl, hsz⟩ := hv
  obtain ⟨fuel, hf⟩ := h
  have h3 : Tryz.prog.cellsOf 47 = 3 := by kernel_rfl
  obtain ⟨l⟩ := cs
  match l, hsz.trans h3 with
  | [c0, c1, c2], _ =>
    obtain ⟨c, rfl, rfl, rfl⟩ := open_col1 hf
    exact ⟨c, rfl⟩
theorem open_tab {v : Value} {d : DataW H} {p : List MemPlace} (h : DataW.Trod enc Tryz.prog w 0 (fun _ => true) true 76 v d p) (hv : ∃ cs, v = .agg cs ∧ cs.size = Tryz.prog.cellsOf 76) :
    ∃ t : TabT, v = tabV t := by
  obtain ⟨cs, rfl, hsz⟩ := hv
  obtain ⟨fuel, hf⟩ := h
  have h4 : Tryz.prog.cellsOf 76 = 4 := by kernel_rfl
  obtain ⟨l⟩ := cs
  obtain ⟨t, ht⟩ := open_tab1 hf (hsz.trans h4)
  exact ⟨t, by rw [show (⟨l⟩ : Array Value) = (encT t).toArray from congrArg Array.mk ht]; rfl⟩
end
end Go.Proofs.YtpjmobpmpghpeaaGreatDoor
end

section
/- Arguments that are batches, or a kind with grams and a day. -/
namespace Go.Proofs.YtpjmobpmpghpeaaGreatDoor
open Go.ChangeShapes Go.WideShapes Go.Deep Go.RowKit
set_option maxRecDepth 100000
section
variable {H : Type} {enc : TypeId × Value → H} {w : World}
theorem open_bat1 {n : Nat} {cs : List Value} {y : DataW H × List MemPlace} (h : DataW.trod enc Tryz.prog w 0 (fun _ => true) true n 73 cs = some y) (hl : cs.length = 4) : ∃ t : BatT, cs = encB t := by
  obtain ⟨f0, f1, f2, f3, he, k0, k1, k2, k3, o0, o1, o2, o3, hs, hi⟩ : ∃ f0 f1 f2 f3 : Field, Tryz.prog.underlying 73 = some (.struct #[f0, f1, f2, f3]) ∧ f0.type = 9 ∧ f1.type = 9 ∧ f2.type = 3 ∧ f3.type = 3 ∧ f0.offset = 0 ∧ f1.offset = 1 ∧ f2.offset = 2 ∧ f3.offset = 3 ∧ Tryz.prog.cellsOf 9 = 1 ∧ Tryz.prog.cellsOf 3 = 1 :=
    ⟨_, _, _, _, Tryz.underlying73, rfl, rfl, rfl, rfl, rfl, rfl, rfl, rfl, by kernel_rfl, by kernel_rfl⟩
  match cs, hl with
  | [c0, c1, c2, c3], _ =>
    obtain ⟨xs, m, _, _, _, hlen, hg⟩ := DataW.trod_struct he h
    have g0 := hg 0 f0 rfl
    have g1 := hg 1 f1 rfl
    have g2 := hg 2 f2 rfl
    have g3 := hg 3 f3 rfl
    rw [k0, o0, hs] at g0
    rw [k1, o1, hs] at g1
    rw [k2, o2, hi] at g2
    rw [k3, o3, hi] at g3
    match xs, hlen with
    | [y0, y1, y2, y3], _ =>
      obtain ⟨s0, hs0, _⟩ := DataW.trod_string (x := y0) Tryz.underlying9 g0
      obtain ⟨s1, hs1, _⟩ := DataW.trod_string (x := y1) Tryz.underlying9 g1
      obtain ⟨x2, rfl⟩ := open_int1 (y := y2) g2
      obtain ⟨x3, rfl⟩ := open_int1 (y := y3) g3
      obtain rfl : c0 = .string s0 := by simpa using hs0
      obtain rfl : c1 = .string s1 := by simpa using hs1
      exact ⟨(s0, s1, x2, x3), rfl⟩
theorem open_bats {v : Value} {d : DataW H} {p : List MemPlace} (h : DataW.Trod enc Tryz.prog w 0 (fun _ => true) true 22 v d p) (hv : ∃ (A : Option Addr) (n cap : Nat), v = .slice A n cap) :
    ∃ l : List BatT, SlF encB w v l ∧ l.length ≤ Rows.uptoBulk d := by
  obtain ⟨A, n0, c0, rfl⟩ := hv
  obtain ⟨fuel, hf⟩ := h
  have hC : Tryz.prog.cellsOf 73 = 4 := by kernel_rfl
  rcases open_slice Tryz.underlying22 hf with ⟨hcs, hx⟩ | ⟨a, len, cap, m, n', D, Pl, hcs, hb, hl, hm, hmm, hx, hi⟩
  · simp [Value.cells] at hcs
    obtain ⟨rfl, rfl, rfl⟩ := hcs
    exact ⟨[], .inl ⟨rfl, rfl⟩, by simp⟩
  · simp [Value.cells] at hcs
    obtain ⟨rfl, rfl, rfl⟩ := hcs
    simp only [if_true] at hmm
    subst hmm
    have hcel : ∀ i, i < n0 → ∃ t : BatT, ∀ j u, (encB t)[j]? = some u → w.cell? (a.add (i * 4 + j)) = some u := fun i hin => by
      obtain ⟨cs', hc, ht'⟩ := hi i (by omega)
      rw [hC] at hc
      obtain ⟨_, hcl, hat⟩ := World.cells?_some hc
      obtain ⟨t, rfl⟩ := open_bat1 ht' hcl
      refine ⟨t, fun j u hu => ?_⟩
      have hj : j < 4 := (List.getElem?_eq_some_iff.1 hu).1
      have h0 := hat j hj
      rw [Go.Deep.add_add] at h0
      rw [h0]
      exact hu
    obtain ⟨l, hlen, hl'⟩ := list_of _ n0 hcel
    refine ⟨l, .inr ⟨a, m, by rw [hlen], fun hne => ?_⟩, ?_⟩
    · obtain ⟨c, hc⟩ : ∃ c, l[0]? = some c := ⟨_, List.getElem?_eq_getElem (List.length_pos_iff.2 hne)⟩
      have hc0 := hl' 0 c hc 0 _ rfl
      obtain ⟨b, o, sp⟩ := a
      obtain rfl : sp = none := by simpa [Addr.add] using World.cell?_spot hc0
      have hadd : ∀ k : Nat, (⟨b, o, none⟩ : Addr).add k = ⟨b, o + k, none⟩ := fun k => by
        unfold Addr.add
        split
        · simp_all
        · rfl
      refine ⟨rfl, ?_, fun j u hu => ?_⟩
      · rcases Nat.lt_or_ge b w.heap.size with h | h
        · exact h
        · simp [World.cell?, Addr.add, Array.getElem?_eq_none h] at hc0
      · have hjl : j < l.length * 4 := by rw [← flatF_len encB_len]; exact (List.getElem?_eq_some_iff.1 hu).1
        obtain ⟨t, ht⟩ : ∃ t, l[j / 4]? = some t := ⟨_, List.getElem?_eq_getElem (by omega)⟩
        have h1 := flatF_get encB_len (j := j % 4) ht (by omega)
        rw [show j / 4 * 4 + j % 4 = j by omega, hu] at h1
        have h2 := hl' _ t ht (j % 4) u h1.symm
        rw [show j / 4 * 4 + j % 4 = j by omega, hadd] at h2
        exact h2
    · simp only [Prod.mk.injEq] at hx
      rw [hx.1]
      have hb := bulk_len ((List.range n0).map D)
      simp only [Rows.uptoBulk]
      rw [List.length_map, List.length_range] at hb
      omega
theorem open_wish {v : Value} {d : DataW H} {p : List MemPlace} (h : DataW.Trod enc Tryz.prog w 0 (fun _ => true) true 24 v d p) (hv : ∃ cs, v = .agg cs ∧ cs.size = Tryz.prog.cellsOf 24) :
    ∃ (kind : ByteArray) (g day : Int), v = .agg #[.string kind, .int .i64 g, .int .i64 day] := by
  obtain ⟨cs, rfl, hsz⟩ := hv
  obtain ⟨fuel, hf⟩ := h
  obtain ⟨f0, f1, f2, he, k0, k1, k2, o0, o1, o2, hs, hi, h3⟩ : ∃ f0 f1 f2 : Field, Tryz.prog.underlying 24 = some (.struct #[f0, f1, f2]) ∧ f0.type = 9 ∧ f1.type = 3 ∧ f2.type = 3 ∧ f0.offset = 0 ∧ f1.offset = 1 ∧ f2.offset = 2 ∧ Tryz.prog.cellsOf 9 = 1 ∧ Tryz.prog.cellsOf 3 = 1 ∧ Tryz.prog.cellsOf 24 = 3 :=
    ⟨_, _, _, Tryz.underlying24, rfl, rfl, rfl, rfl, rfl, rfl, by kernel_rfl, by kernel_rfl, by kernel_rfl⟩
  obtain ⟨l⟩ := cs
  match l, hsz.trans h3 with
  | [c0, c1, c2], _ =>
    obtain ⟨xs, m, _, _, _, hlen, hg⟩ := DataW.trod_struct he hf
    have g0 := hg 0 f0 rfl
    have g1 := hg 1 f1 rfl
    have g2 := hg 2 f2 rfl
    rw [k0, o0, hs] at g0
    rw [k1, o1, hi] at g1
    rw [k2, o2, hi] at g2
    match xs, hlen with
    | [y0, y1, y2], _ =>
      obtain ⟨s0, hs0, _⟩ := DataW.trod_string (x := y0) Tryz.underlying9 g0
      obtain ⟨x1, rfl⟩ := open_int1 (y := y1) g1
      obtain ⟨x2, rfl⟩ := open_int1 (y := y2) g2
      obtain rfl : c0 = .string s0 := by simpa [Value.cells] using hs0
      exact ⟨s0, x1, x2, rfl⟩
end
end Go.Proofs.YtpjmobpmpghpeaaGreatDoor
end
