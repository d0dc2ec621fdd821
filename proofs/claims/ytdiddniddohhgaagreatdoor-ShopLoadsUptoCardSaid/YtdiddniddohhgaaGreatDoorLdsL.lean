import Derived.Test.YtdiddniddohhgaaGreatDoorPakQ
import Derived.Test.YtdiddniddohhgaaGreatDoorPakD
import Derived.Test.YtdiddniddohhgaaGreatDoorJobB
import Derived.Test.YtdiddniddohhgaaGreatDoorFewG
section
/- Loads: what the items of a load have in common, and their sizes together; no world. -/
namespace Go.Proofs
set_option maxHeartbeats 4000000
set_option maxRecDepth 100000
/-- The sizes of the first k items with a number. -/
def sumAt (l : List ItemT) (ns : List Int) (n : Int) : Nat → Int
  | 0 => 0
  | k + 1 => sumAt l ns n k + (match l[k]?, ns[k]? with
    | some x, some m => if m = n then x.2.2 else 0
    | _, _ => 0)
theorem sumAt_succ {l : List ItemT} {ns : List Int} {n m : Int} {k : Nat} {x : ItemT} (hx : l[k]? = some x) (hm : ns[k]? = some m) : sumAt l ns n (k + 1) = sumAt l ns n k + (if m = n then x.2.2 else 0) := by
  conv => lhs; unfold sumAt
  rw [hx, hm]
theorem sumAt_none {l : List ItemT} {ns : List Int} {n : Int} : ∀ k, (∀ (i : Nat) (m : Int), i < k → ns[i]? = some m → m ≠ n) → sumAt l ns n k = 0
  | 0, _ => rfl
  | k + 1, h => by
    have ih := sumAt_none (l := l) k fun i m hi hm => h i m (by omega) hm
    unfold sumAt
    rw [ih]
    split
    · rename_i x m hx hm
      rw [if_neg (h k m (by omega) hm)]
      rfl
    · rfl
theorem sumAt_bd {l : List ItemT} {ns : List Int} {n : Int} {B : Int} (hB : 0 ≤ B) (h : ∀ x ∈ l, 0 ≤ x.2.2 ∧ x.2.2 ≤ B) : ∀ k : Nat, 0 ≤ sumAt l ns n k ∧ sumAt l ns n k ≤ B * k
  | 0 => by simp [sumAt]
  | k + 1 => by
    have ih := sumAt_bd (ns := ns) (n := n) hB h k
    have e : B * ((k + 1 : Nat) : Int) = B * k + B := by rw [Int.natCast_add, Int.mul_add]; simp
    rw [e]
    unfold sumAt
    split
    · rename_i x m hx hm
      have := h x (List.mem_of_getElem? hx)
      split <;> omega
    · omega
structure PkJ (l : List ItemT) (ns : List Int) (k : Nat) (s : List LoadT) : Prop where
  prog : ∀ (i : Nat) (n : Int) (x : ItemT), i < k → ns[i]? = some n → l[i]? = some x → ∃ o, s[n.toNat]? = some o ∧ o.1 = x.2.1
  sum : ∀ (j : Nat) (o : LoadT), s[j]? = some o → sumAt l ns j k = o.2
theorem pkJ_inv {cap : Int} {l : List ItemT} {ns : List Int} (hc : 0 ≤ cap) (hl : ns.length ≤ l.length) : ∀ (k : Nat), k ≤ ns.length → ∀ s, packK cap l ns k = (0, s) → PkJ l ns k s
  | 0, _, s, h => by
    unfold packK at h
    injection h with _ h
    subst h
    exact ⟨fun i n x hi => absurd hi (Nat.not_lt_zero i), fun j o h => by simp at h⟩
  | k + 1, hk, s, h => by
    obtain ⟨x, hx⟩ : ∃ x, l[k]? = some x := ⟨_, List.getElem?_eq_getElem (by omega)⟩
    obtain ⟨n, hn⟩ : ∃ n, ns[k]? = some n := ⟨_, List.getElem?_eq_getElem (by omega)⟩
    rw [packK_succ hx hn] at h
    obtain ⟨⟨e, t⟩, ht⟩ : ∃ t, packK cap l ns k = t := ⟨_, rfl⟩
    rw [ht] at h
    by_cases he : e = 0
    · subst he
      have ih := pkJ_inv hc hl k (by omega) t ht
      have hi := pk_inv hc hl k (by omega) t ht
      obtain ⟨h0, h1, h2, h3, rfl⟩ := stepL_ok h
      obtain ⟨g1, g2⟩ := growL_at (x := x) h0 h1
      have hgl : n.toNat < (growL t x n).length := (List.getElem?_eq_some_iff.1 g1).1
      have hold : ∀ j, j < t.length → (growL t x n)[j]? = t[j]? := fun j hj => by
        rcases g2 with ⟨-, e⟩ | ⟨-, e⟩
        · rw [e, List.getElem?_append_left hj]
        · rw [e]
      refine ⟨fun i m y hi2 hm hy => ?_, fun j o hj => ?_⟩
      · rcases Nat.lt_or_eq_of_le (Nat.le_of_lt_succ hi2) with h4 | rfl
        · obtain ⟨o, ho, hoe⟩ := ih.prog i m y h4 hm hy
          have hml := hi.lt i m h4 hm
          by_cases hmn : m.toNat = n.toNat
          · rw [hmn, List.getElem?_set_self hgl]
            refine ⟨_, rfl, ?_⟩
            rw [hmn] at ho
            have hol := (List.getElem?_eq_some_iff.1 ho).1
            rw [hold _ hol] at g1
            have e2 := Option.some.inj (ho.symm.trans g1)
            show x.2.1 = y.2.1
            rw [← hoe, e2, h2]
          · rw [List.getElem?_set_ne (fun e => hmn e.symm), hold _ (by omega)]
            exact ⟨o, ho, hoe⟩
        · obtain rfl := Option.some.inj (hn.symm.trans hm)
          obtain rfl := Option.some.inj (hx.symm.trans hy)
          rw [List.getElem?_set_self hgl]
          exact ⟨_, rfl, rfl⟩
      · rw [sumAt_succ hx hn]
        by_cases hjn : n.toNat = j
        · subst hjn
          rw [List.getElem?_set_self hgl] at hj
          obtain rfl := Option.some.inj hj
          rw [if_pos (by omega)]
          show _ = (loadAt (growL t x n) n).2 + x.2.2
          have e : sumAt l ns (n.toNat : Int) k = (loadAt (growL t x n) n).2 := by
            rcases g2 with ⟨e1, e2⟩ | ⟨e1, e2⟩
            · have e3 : loadAt (growL t x n) n = (x.2.1, 0) := by
                rw [e2, e1] at g1
                have h5 : (t ++ [(x.2.1, (0 : Int))])[t.length]? = some (x.2.1, 0) := by rw [List.getElem?_append_right (Nat.le_refl _), Nat.sub_self]; rfl
                unfold loadAt
                rw [e2, e1, Int.toNat_natCast, h5]
                rfl
              rw [e3]
              exact sumAt_none k fun i m hi2 hm => by have := hi.lt i m hi2 hm; omega
            · rw [hold _ (by omega)] at g1
              exact ih.sum _ _ g1
          omega
        · rw [List.getElem?_set_ne hjn] at hj
          have hjl : j < t.length := by
            have h5 := (List.getElem?_eq_some_iff.1 hj).1
            rcases g2 with ⟨e1, e2⟩ | ⟨e1, e2⟩
            · rw [e2, List.length_append, List.length_singleton] at h5; omega
            · rw [e2] at h5; exact h5
          rw [hold _ hjl] at hj
          rw [if_neg (by omega), ih.sum j o hj]
          omega
    · exfalso
      unfold stepL at h
      rw [if_pos he] at h
      injection h with h _
      exact he h
/-- A step as the reference sees it: an item of another program is in the load. -/
theorem step_kind {cap : Int} {l : List ItemT} {ns : List Int} (hc : 0 ≤ cap) (hl : ns.length ≤ l.length) {k : Nat} (hk : k ≤ ns.length) {s : List LoadT} (h : packK cap l ns k = (0, s)) {x y : ItemT} {n : Int} (h0 : 0 ≤ n) (h1 : n ≤ s.length) {i : Nat} (hi : i < k) (hn : ns[i]? = some n) (hy : l[i]? = some y) (hne : y.2.1 ≠ x.2.1) : stepL cap (0, s) x n = (13, []) := by
  obtain ⟨o, ho, hoe⟩ := (pkJ_inv hc hl k hk s h).prog i n y hi hn hy
  have hol := (List.getElem?_eq_some_iff.1 ho).1
  have hg : growL s x n = s := by unfold growL; rw [if_neg (by omega)]
  have hla : loadAt (growL s x n) n = o := by unfold loadAt; rw [hg, ho]; rfl
  unfold stepL
  rw [if_neg (by simp)]
  dsimp only
  rw [if_neg (by omega), hla, if_pos (by rw [hoe]; exact hne)]
/-- .. or all have its program. -/
theorem step_sum {cap : Int} {l : List ItemT} {ns : List Int} (hc : 0 ≤ cap) (hl : ns.length ≤ l.length) {k : Nat} (hk : k ≤ ns.length) {s : List LoadT} (h : packK cap l ns k = (0, s)) {x : ItemT} {n : Int} (h0 : 0 ≤ n) (h1 : n ≤ s.length) (hsame : ∀ (i : Nat) (y : ItemT), i < k → ns[i]? = some n → l[i]? = some y → y.2.1 = x.2.1) :
    (loadAt (growL s x n) n).1 = x.2.1 ∧ (loadAt (growL s x n) n).2 = sumAt l ns n k := by
  have hi := pk_inv hc hl k hk s h
  have hj := pkJ_inv hc hl k hk s h
  obtain ⟨g1, g2⟩ := growL_at (x := x) h0 h1
  rcases g2 with ⟨e1, e2⟩ | ⟨e1, e2⟩
  · have e3 : loadAt (growL s x n) n = (x.2.1, 0) := by
      have h5 : (s ++ [(x.2.1, (0 : Int))])[s.length]? = some (x.2.1, 0) := by rw [List.getElem?_append_right (Nat.le_refl _), Nat.sub_self]; rfl
      unfold loadAt
      rw [e2, e1, Int.toNat_natCast, h5]
      rfl
    rw [e3]
    exact ⟨rfl, (sumAt_none k fun i m hi2 hm => by have := hi.lt i m hi2 hm; omega).symm⟩
  · rw [e2] at g1 ⊢
    obtain ⟨i, hi2, hin⟩ := hi.occ n.toNat (by omega)
    have hin' : ns[i]? = some n := by rw [hin]; congr 1; omega
    obtain ⟨y, hy⟩ : ∃ y, l[i]? = some y := ⟨_, List.getElem?_eq_getElem (by omega)⟩
    obtain ⟨o, ho, hoe⟩ := hj.prog i n y hi2 hin' hy
    obtain rfl := Option.some.inj (ho.symm.trans g1)
    have hs := hj.sum _ _ ho
    rw [show ((n.toNat : Nat) : Int) = n by omega] at hs
    exact ⟨hoe.trans (hsame i y hi2 hin' hy), hs.symm⟩
theorem packP_take (cap : Int) (l : List ItemT) (p : List Int) : packP cap (l.take p.length) p = packP cap l p := by
  have key : ∀ k, k ≤ p.length → packK cap (l.take p.length) p k = packK cap l p k := fun k => by
    induction k with
    | zero => intro _; rfl
    | succ k ih =>
      intro hk
      unfold packK
      rw [List.getElem?_take, if_pos (by omega), ih (by omega)]
  exact key _ (Nat.le_refl _)
end Go.Proofs
end

section
/- Loads: CheckLoads of the reference. -/
namespace Go.Proofs
open Go.RowKit Go.MapKept
set_option maxHeartbeats 16000000
set_option maxRecDepth 1000000
theorem max_two (a b : Int) : ∃ z, max a b = z ∧ ((a < b ∧ z = b) ∨ (b ≤ a ∧ z = a)) := by
  by_cases h : a < b
  · exact ⟨_, rfl, .inl ⟨h, by omega⟩⟩
  · exact ⟨_, rfl, .inr ⟨by omega, by omega⟩⟩
theorem refChk_ok (cp : Int) (l : List ItemT) (ns : List Int) (v vn : Value) (w : World) (hl : SlF encQ w v l) (hi : SlI w vn ns) (hc : 0 ≤ cp ∧ cp ≤ 999999999) (hx : ∀ x ∈ l, 0 ≤ x.2.2 ∧ x.2.2 ≤ 999999999) (h64 : l.length ≤ 64) :
    Calls Tryz.prog 14 #[v, .int .i64 cp, vn] w fun e w' => e = .returned (.tuple #[.int .i64 (chkL cp l ns).1, .int .i64 (chkL cp l ns).2]) ∧ Below w.heap.size w w' := by
  obtain ⟨Al, cl, rfl⟩ := hl.form
  obtain ⟨An, cn, rfl⟩ := hi.form
  have hX0 := Below.refl w.heap.size w
  by_cases hlen : ns.length = l.length
  case neg =>
    have hb : ((ns.length : Int) != (l.length : Int)) = true := by simp; omega
    have HR : RowKit.Hid (chkL cp l ns = (0, 2)) := Lib.hid (by unfold chkL; rw [if_pos hlen])
    clear hl hi hx hlen
    go_enter Tryz.func14, Tryz.ntmps14
    go_wp2_with fail
    go_ret2
    rw [HR.out]
    exact ⟨rfl, hX0⟩
  case pos =>
    have hb : ((ns.length : Int) != (l.length : Int)) = false := by simp [hlen]
    have HRES : RowKit.Hid (∀ e t, packP cp l ns = (e, t) → chkL cp l ns = ((t.length : Int), e)) := Lib.hid fun e t h => by unfold chkL; rw [if_neg (fun h => h hlen), h]
    have HHL := Lib.hid hl
    have HHI := Lib.hid hi
    have HHX := Lib.hid hx
    have HLN := Lib.hid hlen
    have H64 := Lib.hid h64
    have HC := Lib.hid hc
    clear hl hi hx hlen h64 hc
    go_enter Tryz.func14, Tryz.ntmps14
    go_wp2_with fail
    clear hb
    go_loopw [8, 9] (fun cv iv wr => ∃ (k : Nat) (s : List LoadT), k ≤ l.length ∧ iv = .int .i64 k ∧ cv = .int .i64 s.length ∧ packK cp l ns k = (0, s) ∧ s.length ≤ k ∧ Below w.heap.size w wr) (fun _ iv _ => l.length - (intOf iv).toNat)
    case atStart => exact ⟨0, [], Nat.zero_le _, rfl, rfl, rfl, Nat.le_refl _, hX0⟩
    case round =>
      clear hX0
      obtain ⟨k, s, hk, rfl, rfl, hpk, hsk, hX⟩ := hrel
      rename World => w3
      rcases Nat.lt_or_eq_of_le hk with hkn | rfl
      · obtain ⟨⟨nm, pr, sz⟩, hxk⟩ : ∃ x, l[k]? = some x := ⟨_, List.getElem?_eq_getElem hkn⟩
        obtain ⟨bn, on, n, rfl, -, hbn, hn, rn⟩ := (HHI.out.below hX).cells (k := k) (by have := HLN.out; omega)
        obtain ⟨bl, ol, rfl, -, hbl, r0, r1, r2⟩ := ite_cells (HHL.out.below hX) hxk
        dsimp only at r0 r1 r2
        have hxb := HHX.out _ (List.mem_of_getElem? hxk)
        dsimp only at hxb
        have hps := packK_succ (cap := cp) hxk hn
        rw [hpk] at hps
        have hk0 : (0 : Int) ≤ k := by omega
        have hk1 : (k : Int) < ns.length := by have := HLN.out; omega
        have hk2 : (k : Int) < l.length := by omega
        have HPS := Lib.hid hps
        have HPK := Lib.hid hpk
        have HXB := Lib.hid hxb
        have HXK := Lib.hid hxk
        have HN := Lib.hid hn
        have HK := Lib.hid (show k + 1 ≤ l.length from hkn)
        have HM := Lib.hid (show l.length - (k + 1) < l.length - k by omega)
        have HWK := Lib.hid (wrapsLQ (show k < 1048576 by have := H64.out; omega))
        have HSK := Lib.hid hsk
        have HBAD : RowKit.Hid (∀ e, stepL cp (0, s) (nm, pr, sz) n = (e, []) → e ≠ 0 → chkL cp l ns = (0, e)) := Lib.hid fun e h he => by
          have h2 := HRES.out e [] (by
            unfold packP
            rw [packK_bad (k := k + 1) (by rw [HPS.out, h]; exact he) ns.length (by have := HLN.out; have := HK.out; omega), HPS.out, h])
          exact h2
        clear hps hxb hpk hsk hxk hn hkn
        obtain ⟨b1, hb1⟩ : ∃ b, decide (n < 0) = b := ⟨_, rfl⟩
        cases b1 with
        | true =>
          have hn0 : n < 0 := of_decide_eq_true hb1
          have hr := HBAD.out 11 (by unfold stepL; rw [if_neg (by simp), if_pos (.inl hn0)]) (by decide)
          have HR := Lib.hid hr
          clear hr hn0
          go_wp2_with fail
          go_ret2
          rw [HR.out]
          exact ⟨rfl, hX⟩
        | false =>
        have hn0 : ¬ n < 0 := of_decide_eq_false hb1
        obtain ⟨b2, hb2⟩ : ∃ b, decide ((s.length : Int) < n) = b := ⟨_, rfl⟩
        cases b2 with
        | true =>
          have hn1 : (s.length : Int) < n := of_decide_eq_true hb2
          have hr := HBAD.out 11 (by unfold stepL; rw [if_neg (by simp), if_pos (.inr hn1)]) (by decide)
          have HR := Lib.hid hr
          clear hr hn0 hn1
          go_wp2_with fail
          go_ret2
          rw [HR.out]
          exact ⟨rfl, hX⟩
        | false =>
        have hn1 : ¬ (s.length : Int) < n := of_decide_eq_false hb2
        have HNB := Lib.hid (show 0 ≤ n ∧ n ≤ s.length from ⟨by omega, by omega⟩)
        have hY0 := Below.refl w3.heap.size w3
        have hs0 : sz + sumAt l ns n 0 = sz := by show sz + 0 = sz; omega
        clear hn0 hn1
        go_wp2_with fail
        go_loopw [10, 11] (fun sv jv wr => ∃ q : Nat, q ≤ k ∧ jv = .int .i64 q ∧ sv = .int .i64 (sz + sumAt l ns n q) ∧ (∀ (i : Nat) (y : ItemT), i < q → ns[i]? = some n → l[i]? = some y → y.2.1 = pr) ∧ Below w3.heap.size w3 wr) (fun _ jv _ => k - (intOf jv).toNat)
        case atStart => exact ⟨0, Nat.zero_le _, rfl, by rw [hs0], fun i y h => absurd h (Nat.not_lt_zero i), hY0⟩
        case round =>
          clear hY0 hs0 r0 r1 r2 rn
          obtain ⟨q, hq, rfl, rfl, hsame, hY⟩ := hrel
          rename World => w4
          have hXY := hX.trans (hY.mono hX.size)
          obtain ⟨bn2, on2, n2, e1, -, -, hn2, rn⟩ := (HHI.out.below hXY).cells (k := k) (by have := HLN.out; have := HK.out; omega)
          injection e1 with e1
          injection e1 with e1 e1b
          subst e1 e1b
          obtain rfl := Option.some.inj (HN.out.symm.trans hn2)
          obtain ⟨bl2, ol2, e2, -, -, r0, r1, r2⟩ := ite_cells (HHL.out.below hXY) HXK.out
          injection e2 with e2
          injection e2 with e2 e2b
          subst e2 e2b
          dsimp only at r0 r1 r2
          have HSAME := Lib.hid hsame
          clear hn2 hsame
          rcases Nat.lt_or_eq_of_le hq with hqn | rfl
          · obtain ⟨⟨nm2, pr2, sz2⟩, hyq⟩ : ∃ x, l[q]? = some x := ⟨_, List.getElem?_eq_getElem (by have := HK.out; omega)⟩
            obtain ⟨bn3, on3, m, e1, -, -, hmq, rm⟩ := (HHI.out.below hXY).cells (k := q) (by have := HLN.out; have := HK.out; omega)
            injection e1 with e1
            injection e1 with e1 e1b
            subst e1 e1b
            obtain ⟨bl3, ol3, e2, -, -, p0, p1, p2⟩ := ite_cells (HHL.out.below hXY) hyq
            injection e2 with e2
            injection e2 with e2 e2b
            subst e2 e2b
            dsimp only at p0 p1 p2
            have hsc := sumAt_succ (n := n) hyq hmq
            have hsb := sumAt_bd (l := l) (ns := ns) (n := n) (B := 999999999) (by omega) HHX.out q
            have hyb := HHX.out _ (List.mem_of_getElem? hyq)
            have hxb := HXB.out
            have h64 := H64.out
            have hkl := HK.out
            dsimp only at hsc hyb
            have hq0 : (0 : Int) ≤ q := by omega
            have hq1 : (q : Int) < k := by omega
            have hq2 : (q : Int) < ns.length := by have := HLN.out; omega
            have hq3 : (q : Int) < l.length := by omega
            have HSC := Lib.hid hsc
            have HYQ := Lib.hid hyq
            have HMQ := Lib.hid hmq
            have HQK := Lib.hid (show q + 1 ≤ k from hqn)
            have HQM := Lib.hid (show k - (q + 1) < k - q by omega)
            have HQW := Lib.hid (wrapsLQ (show q < 1048576 by omega))
            have HQL := Lib.hid hqn
            have HXY := Lib.hid hXY
            have HY := Lib.hid hY
            obtain ⟨sq, hsq⟩ : ∃ sq, sq = sumAt l ns n q := ⟨_, rfl⟩
            rw [← hsq] at hsb ⊢
            have HSQ := Lib.hid hsq
            have ws1 : wrap64 (sz + sq + sz2) = sz + sq + sz2 := wrap64_small (by omega)
            have ws2 : IntKind.i64.wrap (sz + sq + sz2) = sz + sq + sz2 := wrap_small (by omega)
            clear hsc hyq hmq hsb hyb hxb h64 hkl hsq hXY hY hqn hq
            obtain ⟨zm, hzm⟩ : ∃ zm, (m == n) = zm := ⟨_, rfl⟩
            have HZM := Lib.hid hzm
            go_wp2_with fail
            go_quiet (fail)
            cases zm with
            | false =>
              have hmn : m ≠ n := fun e => by have := HZM.out; rw [e] at this; simp at this
              have HS1 : RowKit.Hid (sumAt l ns n (q + 1) = sq) := Lib.hid (by rw [HSC.out, if_neg hmn, ← HSQ.out]; omega)
              have HS2 : RowKit.Hid (∀ (i : Nat) (y : ItemT), i < q + 1 → ns[i]? = some n → l[i]? = some y → y.2.1 = pr) := Lib.hid fun i y hi h1 h2 => by
                rcases Nat.lt_or_eq_of_le (Nat.le_of_lt_succ hi) with h3 | rfl
                · exact HSAME.out i y h3 h1 h2
                · exact absurd (Option.some.inj (HMQ.out.symm.trans h1)) hmn
              obtain ⟨wk1, wk2⟩ := HQW.out
              clear hmn
              go_wp2_with fail
              go_roundw
              case rel => exact ⟨q + 1, HQK.out, by simp, by rw [HS1.out], HS2.out, below_drewN HY.out _⟩
              case measure => exact HQM.out
            | true =>
              have hmn : m = n := by have := HZM.out; simpa using this
              have HMN := Lib.hid hmn
              clear hmn
              obtain ⟨zb, hzb⟩ : ∃ zb, (pr2.toList == pr.toList) = zb := ⟨_, rfl⟩
              have HZB := Lib.hid hzb
              obtain ⟨w5, hw5⟩ : ∃ w5, w5 = w4.drewN nq := ⟨_, rfl⟩
              have hB5 : Below w4.heap.size w4 w5 := by rw [hw5]; exact below_drewN (Below.refl _ _) nq
              have p1' : w5.cell? ⟨bl, ol + q * 3 + 1, none⟩ = some (.string pr2) := by rw [hw5]; exact p1
              have p2' : w5.cell? ⟨bl, ol + q * 3 + 2, none⟩ = some (.int .i64 sz2) := by rw [hw5]; exact p2
              have r1' : w5.cell? ⟨bl, ol + k * 3 + 1, none⟩ = some (.string pr) := by rw [hw5]; exact r1
              have HY5 := Lib.hid (HY.out.trans (hB5.mono HY.out.size))
              rw [← hw5]
              clear hw5 hB5 p0 p1 p2 r0 r1 r2 rm rn
              go_wp2_with fail
              go_quiet (fail)
              cases zb with
              | false =>
                have hne : pr2 ≠ pr := fun e => by have := HZB.out; rw [e] at this; simp at this
                have hr := HBAD.out 13 (step_kind (x := (nm, pr, sz)) HC.out.1 (by have := HLN.out; omega) (by have := HLN.out; have := HK.out; omega) HPK.out HNB.out.1 HNB.out.2 HQL.out (HMN.out ▸ HMQ.out) HYQ.out hne) (by decide)
                have HR := Lib.hid hr
                clear hr hne
                go_wp2_with fail
                go_ret2
                rw [HR.out]
                exact ⟨rfl, hX.trans ((below_drewN HY5.out _).mono hX.size)⟩
              | true =>
                have heq : pr2 = pr := by
                  apply Classical.byContradiction
                  intro h
                  have := HZB.out
                  rw [bytes_ne h] at this
                  cases this
                have HS1 : RowKit.Hid (sz + sumAt l ns n (q + 1) = sz + sq + sz2) := Lib.hid (by rw [HSC.out, if_pos HMN.out, ← HSQ.out]; omega)
                have HS2 : RowKit.Hid (∀ (i : Nat) (y : ItemT), i < q + 1 → ns[i]? = some n → l[i]? = some y → y.2.1 = pr) := Lib.hid fun i y hi h1 h2 => by
                  rcases Nat.lt_or_eq_of_le (Nat.le_of_lt_succ hi) with h3 | rfl
                  · exact HSAME.out i y h3 h1 h2
                  · rw [← Option.some.inj (HYQ.out.symm.trans h2)]
                    exact heq
                obtain ⟨wk1, wk2⟩ := HQW.out
                clear heq
                go_wp2_with fail
                go_roundw
                case rel => exact ⟨q + 1, HQK.out, by simp, by rw [HS1.out], HS2.out, below_drewN HY5.out _⟩
                case measure => exact HQM.out
          · obtain ⟨h1, h2⟩ := step_sum (x := (nm, pr, sz)) HC.out.1 (by have := HLN.out; omega) (by have := HLN.out; have := HK.out; omega) HPK.out HNB.out.1 HNB.out.2 HSAME.out
            obtain ⟨sq, hsq⟩ : ∃ sq, sq = sumAt l ns n q := ⟨_, rfl⟩
            rw [← hsq] at h2 ⊢
            obtain ⟨zb2, hzb2⟩ : ∃ b, decide (cp < sz + sq) = b := ⟨_, rfl⟩
            have HZB2 := Lib.hid hzb2
            cases zb2 with
            | true =>
              have hr := HBAD.out 4 (by
                have hnb := HNB.out
                unfold stepL
                rw [if_neg (by simp)]
                dsimp only
                rw [if_neg (by omega), if_neg (by rw [h1]; simp), if_pos (by rw [h2]; have := of_decide_eq_true HZB2.out; omega)]) (by decide)
              have HR := Lib.hid hr
              clear hr h1 h2 hsq
              go_wp2_with fail
              go_ret2
              rw [HR.out]
              exact ⟨rfl, hXY⟩
            | false =>
              have hnb := HNB.out
              have hst := stepL_mk (cap := cp) (s := s) (x := (nm, pr, sz)) (n := n) hnb.1 hnb.2 h1 (by rw [h2]; have := of_decide_eq_false HZB2.out; show sq + sz ≤ cp; omega)
              obtain ⟨s', hs'⟩ : ∃ s', s' = (growL s (nm, pr, sz) n).set n.toNat (pr, (loadAt (growL s (nm, pr, sz) n) n).2 + sz) := ⟨_, rfl⟩
              have hfin : packK cp l ns (q + 1) = (0, s') := by rw [HPS.out, hst, hs']
              obtain ⟨z, hz, hzc⟩ := max_two (s.length : Int) (n + 1)
              have hlen' : (s'.length : Int) = z ∧ s'.length ≤ q + 1 := by
                have hsk := HSK.out
                obtain ⟨-, g2⟩ := growL_at (x := (nm, pr, sz)) hnb.1 hnb.2
                rw [hs', List.length_set]
                rcases g2 with ⟨e1, e2⟩ | ⟨e1, e2⟩
                · rw [e2, List.length_append, List.length_singleton]
                  omega
                · rw [e2]
                  omega
              have h64 := H64.out
              have hkl := HK.out
              have hsk := HSK.out
              have wn1 : wrap64 (n + 1) = n + 1 := wrap64_small (by omega)
              have wn2 : IntKind.i64.wrap (n + 1) = n + 1 := wrap_small (by omega)
              have HFIN := Lib.hid (And.intro hfin hlen')
              obtain ⟨wk1, wk2⟩ := HWK.out
              clear hst hs' hfin hlen' h1 h2 hsq h64 hkl hsk hnb
              have HXY := Lib.hid hXY
              clear hXY
              rcases hzc with ⟨hlt, rfl⟩ | ⟨hlt, rfl⟩
              all_goals
                go_wp2_with fail
                go_roundw
                case rel => exact ⟨q + 1, s', HK.out, by simp, by rw [HFIN.out.2.1], HFIN.out.1, HFIN.out.2.2, HXY.out⟩
                case measure => exact HM.out
      · have hr := HRES.out 0 s (by unfold packP; rw [HLN.out]; exact hpk)
        have HR := Lib.hid hr
        clear hr hpk hsk hk
        go_wp2_with fail
        go_ret2
        rw [HR.out]
        exact ⟨rfl, hX⟩
end Go.Proofs
end

section
/- Loads: the bound as the reference reckons it. -/
namespace Go.Proofs
open Go.RowKit Go.MapKept
set_option maxHeartbeats 16000000
set_option maxRecDepth 1000000
theorem putS_keysIn {s : ByteArray} {v : Int} : ∀ {m : List (ByteArray × Int)}, s ∈ m.map (·.1) → (putS s v m).map (·.1) = m.map (·.1)
  | [], h => by simp at h
  | p :: m, h => by
    unfold putS
    by_cases h1 : s = p.1
    · rw [if_pos h1, List.map_cons, List.map_cons, h1]
    · rw [if_neg h1, List.map_cons, List.map_cons, putS_keysIn]
      rw [List.map_cons] at h
      rcases List.mem_cons.1 h with h3 | h3
      · exact absurd h3 h1
      · exact h3
theorem putS_keysOut {s : ByteArray} {v : Int} : ∀ {m : List (ByteArray × Int)}, s ∉ m.map (·.1) → (putS s v m).map (·.1) = m.map (·.1) ++ [s]
  | [], _ => by simp [putS]
  | p :: m, h => by
    unfold putS
    rw [List.map_cons] at h
    rw [if_neg (fun h1 => h (by rw [h1]; exact List.mem_cons_self)), List.map_cons, List.map_cons, putS_keysOut (fun h3 => h (List.mem_cons_of_mem _ h3))]
    rfl
def progAt (l : List ItemT) (k : Nat) : Option ByteArray := (l[k]?).map (·.2.1)
theorem szI_keys (l : List ItemT) : ∀ (k : Nat) (P : ByteArray), k ≤ l.length → (P ∈ (szI l k).map (·.1) ↔ ∃ i, i < k ∧ progAt l i = some P)
  | 0, P, _ => by simp [szI]
  | k + 1, P, hk => by
    obtain ⟨x, hx⟩ : ∃ x, l[k]? = some x := ⟨_, List.getElem?_eq_getElem (by omega)⟩
    have ih := szI_keys l k P (by omega)
    have hp : progAt l k = some x.2.1 := by unfold progAt; rw [hx]; rfl
    rw [szI_succ hx]
    unfold szG
    by_cases hP : x.2.1 ∈ (szI l k).map (·.1)
    · rw [putS_keysIn hP]
      constructor
      · intro h
        obtain ⟨i, h1, h2⟩ := ih.1 h
        exact ⟨i, by omega, h2⟩
      · rintro ⟨i, h1, h2⟩
        rcases Nat.lt_or_eq_of_le (Nat.le_of_lt_succ h1) with h3 | rfl
        · exact ih.2 ⟨i, h3, h2⟩
        · rw [hp] at h2
          obtain rfl := Option.some.inj h2
          exact hP
    · rw [putS_keysOut hP]
      constructor
      · intro h
        rcases List.mem_append.1 h with h | h
        · obtain ⟨i, h1, h2⟩ := ih.1 h
          exact ⟨i, by omega, h2⟩
        · obtain rfl : P = x.2.1 := by simpa using h
          exact ⟨k, by omega, hp⟩
      · rintro ⟨i, h1, h2⟩
        rcases Nat.lt_or_eq_of_le (Nat.le_of_lt_succ h1) with h3 | rfl
        · exact List.mem_append.2 (.inl (ih.2 ⟨i, h3, h2⟩))
        · rw [hp] at h2
          obtain rfl := Option.some.inj h2
          simp
/-- Whether an item is the first of its program, as far as the first q say. -/
noncomputable def fstB (l : List ItemT) (P : ByteArray) (i q : Nat) : Bool := by
  classical
  exact decide (∀ k, k < q → progAt l k = some P → i ≤ k)
theorem fstB_0 (l : List ItemT) (P : ByteArray) (i : Nat) : fstB l P i 0 = true := by
  unfold fstB
  exact decide_eq_true fun k h => absurd h (Nat.not_lt_zero k)
theorem fstB_same {l : List ItemT} {P : ByteArray} {i q : Nat} (h : progAt l q = some P) : fstB l P i (q + 1) = (fstB l P i q && decide (i ≤ q)) := by
  unfold fstB
  by_cases h1 : ∀ k, k < q → progAt l k = some P → i ≤ k
  · by_cases h2 : i ≤ q
    · rw [decide_eq_true h1, decide_eq_true h2, decide_eq_true]
      · rfl
      · intro k hk hp
        rcases Nat.lt_or_eq_of_le (Nat.le_of_lt_succ hk) with h3 | rfl
        · exact h1 k h3 hp
        · exact h2
    · rw [decide_eq_false h2, Bool.and_false]
      exact decide_eq_false fun h3 => h2 (h3 q (by omega) h)
  · rw [decide_eq_false h1, Bool.false_and]
    exact decide_eq_false fun h3 => h1 fun k hk hp => h3 k (by omega) hp
theorem fstB_other {l : List ItemT} {P : ByteArray} {i q : Nat} (h : progAt l q ≠ some P) : fstB l P i (q + 1) = fstB l P i q := by
  unfold fstB
  have e : (∀ k, k < q + 1 → progAt l k = some P → i ≤ k) ↔ (∀ k, k < q → progAt l k = some P → i ≤ k) := by
    constructor
    · intro h1 k hk hp
      exact h1 k (by omega) hp
    · intro h1 k hk hp
      rcases Nat.lt_or_eq_of_le (Nat.le_of_lt_succ hk) with h3 | rfl
      · exact h1 k h3 hp
      · exact absurd hp h
  by_cases h1 : ∀ k, k < q → progAt l k = some P → i ≤ k
  · rw [decide_eq_true h1, decide_eq_true (e.2 h1)]
  · rw [decide_eq_false h1, decide_eq_false (fun h2 => h1 (e.1 h2))]
theorem fstB_all {l : List ItemT} {P : ByteArray} {i : Nat} (hi : i ≤ l.length) : fstB l P i l.length = true ↔ P ∉ (szI l i).map (·.1) := by
  unfold fstB
  rw [szI_keys l i P hi]
  constructor
  · intro h
    have h := of_decide_eq_true h
    rintro ⟨k, h1, h2⟩
    have hk : k < l.length := by
      unfold progAt at h2
      obtain ⟨x, hx, -⟩ := Option.map_eq_some_iff.1 h2
      exact (List.getElem?_eq_some_iff.1 hx).1
    have := h k hk h2
    omega
  · intro h
    refine decide_eq_true fun k hk hp => ?_
    apply Classical.byContradiction
    intro h2
    exact h ⟨k, by omega, hp⟩
/-- What the first i items give to the bound. -/
noncomputable def refF (cap : Int) (l : List ItemT) : Nat → Int
  | 0 => 0
  | i + 1 => refF cap l i + (match l[i]? with
    | some x => if fstB l x.2.1 i l.length = true then ceilD (sumI x.2.1 l) cap else 0
    | none => 0)
theorem refF_succ {cap : Int} {l : List ItemT} {i : Nat} {x : ItemT} (h : l[i]? = some x) : refF cap l (i + 1) = refF cap l i + (if fstB l x.2.1 i l.length = true then ceilD (sumI x.2.1 l) cap else 0) := by
  conv => lhs; unfold refF
  rw [h]
def sumC (cap : Int) (l : List ItemT) : List ByteArray → Int
  | [] => 0
  | P :: ks => ceilD (sumI P l) cap + sumC cap l ks
theorem sumC_app (cap : Int) (l : List ItemT) : ∀ (ks : List ByteArray) (P : ByteArray), sumC cap l (ks ++ [P]) = sumC cap l ks + ceilD (sumI P l) cap
  | [], P => by simp [sumC]
  | k :: ks, P => by
    show ceilD (sumI k l) cap + sumC cap l (ks ++ [P]) = ceilD (sumI k l) cap + sumC cap l ks + _
    rw [sumC_app cap l ks P]
    omega
theorem refF_keys (cap : Int) (l : List ItemT) : ∀ i, i ≤ l.length → refF cap l i = sumC cap l ((szI l i).map (·.1))
  | 0, _ => by simp [refF, szI, sumC]
  | i + 1, hi => by
    obtain ⟨x, hx⟩ : ∃ x, l[i]? = some x := ⟨_, List.getElem?_eq_getElem (by omega)⟩
    rw [refF_succ hx, refF_keys cap l i (by omega), szI_succ hx]
    unfold szG
    have hf := fstB_all (l := l) (P := x.2.1) (i := i) (by omega)
    by_cases h : x.2.1 ∈ (szI l i).map (·.1)
    · rw [putS_keysIn h, if_neg (fun h2 => hf.1 h2 h)]
      omega
    · rw [putS_keysOut h, if_pos (hf.2 h), sumC_app]
theorem refF_all (cap : Int) (l : List ItemT) : refF cap l l.length = bndF cap (szI l l.length) := by
  rw [refF_keys cap l _ (Nat.le_refl _)]
  have hz := (sz_ok l l.length (Nat.le_refl _)).val
  rw [List.take_length] at hz
  have key : ∀ m : List (ByteArray × Int), (∀ p ∈ m, p.2 = sumI p.1 l) → sumC cap l (m.map (·.1)) = bndF cap m := fun m => by
    induction m with
    | nil => intro _; rfl
    | cons p m ih =>
      intro h
      rw [List.map_cons]
      show ceilD (sumI p.1 l) cap + _ = ceilD p.2 cap + _
      rw [ih fun q hq => h q (by simp [hq]), h p (by simp)]
  exact key _ hz
theorem refF_bd {cp : Int} {l : List ItemT} (h64 : l.length ≤ 64) (hc : 1 ≤ cp ∧ cp ≤ 999999999) (h : ∀ x ∈ l, 1 ≤ x.2.2 ∧ x.2.2 ≤ cp) : ∀ i, i ≤ l.length → 0 ≤ refF cp l i ∧ refF cp l i ≤ 64000000000 * i
  | 0, _ => by simp [refF]
  | i + 1, hi => by
    obtain ⟨x, hx⟩ : ∃ x, l[i]? = some x := ⟨_, List.getElem?_eq_getElem (by omega)⟩
    have ih := refF_bd h64 hc h i (by omega)
    have h1 := sum_small9 h64 hc.2 h x.2.1 l.length
    rw [List.take_length] at h1
    have h2 := ceil_bd hc.1 h1.1
    rw [refF_succ hx]
    split <;> omega
end Go.Proofs
end

section
/- Loads: Fewest of the reference. -/
namespace Go.Proofs
open Go.RowKit Go.MapKept
set_option maxHeartbeats 16000000
set_option maxRecDepth 1000000
theorem sumI_take {l : List ItemT} {k : Nat} {x : ItemT} (h : l[k]? = some x) (P : ByteArray) : sumI P (l.take (k + 1)) = sumI P (l.take k) + (if x.2.1 = P then x.2.2 else 0) := by
  rw [List.take_add_one, h, Option.toList_some, sumI_app]
theorem refFew_ok (cp : Int) (l : List ItemT) (v : Value) (w : World) (hl : SlF encQ w v l) (h64 : l.length ≤ 64) (hc : 1 ≤ cp ∧ cp ≤ 999999999) (hx : ∀ x ∈ l, 1 ≤ x.2.2 ∧ x.2.2 ≤ cp) :
    Calls Tryz.prog 15 #[v, .int .i64 cp] w fun e w' => e = .returned (.int .i64 (bndF cp (szI l l.length))) ∧ Below w.heap.size w w' := by
  obtain ⟨Al, cl, rfl⟩ := hl.form
  rw [← refF_all]
  have hX0 := Below.refl w.heap.size w
  have HSB := Lib.hid fun P k => sum_small9 h64 hc.2 hx P k
  have HRB := Lib.hid fun i hi => refF_bd h64 hc hx i hi
  have HHL := Lib.hid hl
  have H64 := Lib.hid h64
  have HC := Lib.hid hc
  have hcz : cp ≠ 0 := by omega
  have hcz2 : (cp == 0) = false := by simpa using hcz
  clear hl h64 hc hx
  go_enter Tryz.func15, Tryz.ntmps15
  go_wp2_with fail
  go_loopw [5, 6] (fun nv iv wr => ∃ i : Nat, i ≤ l.length ∧ iv = .int .i64 i ∧ nv = .int .i64 (refF cp l i) ∧ Below w.heap.size w wr) (fun _ iv _ => l.length - (intOf iv).toNat)
  case atStart => exact ⟨0, Nat.zero_le _, rfl, rfl, hX0⟩
  case round =>
    clear hX0
    obtain ⟨i, hi, rfl, rfl, hX⟩ := hrel
    rename World => w3
    rcases Nat.lt_or_eq_of_le hi with hin | rfl
    · obtain ⟨⟨nm, pr, sz⟩, hxi⟩ : ∃ x, l[i]? = some x := ⟨_, List.getElem?_eq_getElem hin⟩
      have hi0 : (0 : Int) ≤ i := by omega
      have hi1 : (i : Int) < l.length := by omega
      have hrs := refF_succ (cap := cp) hxi
      dsimp only at hrs
      have hrb := HRB.out i (by omega)
      obtain ⟨rn, hrn⟩ : ∃ rn, rn = refF cp l i := ⟨_, rfl⟩
      rw [← hrn] at hrs hrb ⊢
      have HRS := Lib.hid hrs
      have HRN := Lib.hid hrb
      have HXI := Lib.hid hxi
      have HIN := Lib.hid hin
      have HWI := Lib.hid (wrapsLQ (show i < 1048576 by have := H64.out; omega))
      have HMI := Lib.hid (show l.length - (i + 1) < l.length - i by omega)
      have hs0 : RowKit.Hid ((0 : Int) = sumI pr (l.take 0)) := Lib.hid rfl
      have hf0 : RowKit.Hid (true = fstB l pr i 0) := Lib.hid (fstB_0 _ _ _).symm
      have hY0 := Below.refl w3.heap.size w3
      clear hrs hrb hrn hxi hin hi
      go_wp2_with fail
      go_loopw [7, 8, 9] (fun sv fv kv wr => ∃ q : Nat, q ≤ l.length ∧ kv = .int .i64 q ∧ sv = .int .i64 (sumI pr (l.take q)) ∧ fv = .bool (fstB l pr i q) ∧ Below w3.heap.size w3 wr) (fun _ _ kv _ => l.length - (intOf kv).toNat)
      case atStart => exact ⟨0, Nat.zero_le _, rfl, by rw [← hs0.out], by rw [← hf0.out], hY0⟩
      case round =>
        clear hY0 hs0 hf0
        obtain ⟨q, hq, rfl, rfl, rfl, hY⟩ := hrel
        rename World => w4
        have hXY := hX.trans (hY.mono hX.size)
        rcases Nat.lt_or_eq_of_le hq with hqn | rfl
        · obtain ⟨⟨nm2, pr2, sz2⟩, hyq⟩ : ∃ x, l[q]? = some x := ⟨_, List.getElem?_eq_getElem hqn⟩
          obtain ⟨bl, ol, rfl, -, hbl, r0, r1, r2⟩ := ite_cells (HHL.out.below hXY) HXI.out
          obtain ⟨bl2, ol2, e2, -, -, p0, p1, p2⟩ := ite_cells (HHL.out.below hXY) hyq
          injection e2 with e2
          injection e2 with e2 e2b
          subst e2 e2b
          dsimp only at r0 r1 r2 p0 p1 p2
          have hq0 : (0 : Int) ≤ q := by omega
          have hq1 : (q : Int) < l.length := by omega
          have hst := sumI_take hyq pr
          have hb1 := HSB.out pr q
          have hb2 := HSB.out pr (q + 1)
          obtain ⟨sq, hsq⟩ : ∃ sq, sq = sumI pr (l.take q) := ⟨_, rfl⟩
          rw [← hsq] at hst hb1 ⊢
          dsimp only at hst
          have HST := Lib.hid hst
          have HSQB := Lib.hid (And.intro hb1 hb2)
          have hpq : progAt l q = some pr2 := by unfold progAt; rw [hyq]; rfl
          have HFS : RowKit.Hid (pr2 = pr → fstB l pr i (q + 1) = (fstB l pr i q && decide (i ≤ q))) := Lib.hid fun e => fstB_same (by rw [hpq, e])
          have HFO : RowKit.Hid (pr2 ≠ pr → fstB l pr i (q + 1) = fstB l pr i q) := Lib.hid fun e => fstB_other (by rw [hpq]; exact fun h => e (Option.some.inj h))
          obtain ⟨fq, hfq⟩ : ∃ fq, fq = fstB l pr i q := ⟨_, rfl⟩
          rw [← hfq] at HFS HFO ⊢
          have HWQ := Lib.hid (wrapsLQ (show q < 1048576 by have := H64.out; omega))
          have HMQ := Lib.hid (show l.length - (q + 1) < l.length - q by omega)
          have HQN := Lib.hid hqn
          have HY := Lib.hid hY
          clear hst hb1 hb2 hsq hpq hfq hq hqn hyq hXY hY
          obtain ⟨zb, hzb⟩ : ∃ zb, (pr2.toList == pr.toList) = zb := ⟨_, rfl⟩
          have HZB := Lib.hid hzb
          go_wp2_with fail
          go_quiet (fail)
          cases zb with
          | false =>
            have hne : pr2 ≠ pr := fun e => by have := HZB.out; rw [e] at this; simp at this
            have HS1 : RowKit.Hid (sumI pr (l.take (q + 1)) = sq) := Lib.hid (by rw [HST.out, if_neg hne]; omega)
            have HF1 := Lib.hid (HFO.out hne)
            obtain ⟨wk1, wk2⟩ := HWQ.out
            clear hne
            go_wp2_with fail
            go_roundw
            case rel => exact ⟨q + 1, HQN.out, by simp, by rw [HS1.out], by rw [HF1.out], below_drewN HY.out _⟩
            case measure => exact HMQ.out
          | true =>
            have heq : pr2 = pr := by
              apply Classical.byContradiction
              intro h
              have := HZB.out
              rw [bytes_ne h] at this
              cases this
            have HS1 : RowKit.Hid (sumI pr (l.take (q + 1)) = sq + sz2) := Lib.hid (by rw [HST.out, if_pos heq])
            have HF1 := Lib.hid (HFS.out heq)
            have hsb : 0 ≤ sq + sz2 ∧ sq + sz2 ≤ 64000000000 := by rw [← HS1.out]; exact HSQB.out.2
            have ws1 : wrap64 (sq + sz2) = sq + sz2 := wrap64_small (by omega)
            have ws2 : IntKind.i64.wrap (sq + sz2) = sq + sz2 := wrap_small (by omega)
            obtain ⟨w5, hw5⟩ : ∃ w5, w5 = w4.drewN nq := ⟨_, rfl⟩
            have hB5 : Below w4.heap.size w4 w5 := by rw [hw5]; exact below_drewN (Below.refl _ _) nq
            have p2' : w5.cell? ⟨bl, ol + q * 3 + 2, none⟩ = some (.int .i64 sz2) := by rw [hw5]; exact p2
            have HY5 := Lib.hid (HY.out.trans (hB5.mono HY.out.size))
            rw [← hw5]
            clear hw5 hB5 p0 p1 p2 r0 r1 r2 heq hsb
            obtain ⟨zi, hzi⟩ : ∃ zi, decide ((i : Int) ≤ (q : Int)) = zi := ⟨_, rfl⟩
            have HF2 : RowKit.Hid (fstB l pr i (q + 1) = (fq && zi)) := Lib.hid (by
              rw [HF1.out, ← hzi]
              congr 1
              exact decide_eq_decide.2 ⟨fun h => by omega, fun h => by omega⟩)
            obtain ⟨wk1, wk2⟩ := HWQ.out
            clear HF1
            cases fq with
            | false =>
              have HF3 : RowKit.Hid (fstB l pr i (q + 1) = false) := Lib.hid (by rw [HF2.out]; rfl)
              go_wp2_with fail
              go_roundw
              case rel => exact ⟨q + 1, HQN.out, by simp, by rw [HS1.out], by rw [HF3.out], HY5.out⟩
              case measure => exact HMQ.out
            | true =>
              have HF3 : RowKit.Hid (fstB l pr i (q + 1) = zi) := Lib.hid (by rw [HF2.out]; rfl)
              have HZI : RowKit.Hid (zi = decide (i ≤ q)) := Lib.hid (by rw [← hzi]; exact decide_eq_decide.2 ⟨fun h => by omega, fun h => by omega⟩)
              go_wp2_with fail
              go_roundw
              case rel => exact ⟨q + 1, HQN.out, by simp, by rw [HS1.out], by rw [HF3.out, HZI.out], HY5.out⟩
              case measure => exact HMQ.out
        · rw [List.take_length]
          have hsb := HSB.out pr l.length
          rw [List.take_length] at hsb
          have hcb := HC.out
          have hce := ceil_bd hcb.1 hsb.1
          have hrb := HRN.out
          have h64 := H64.out
          obtain ⟨fq, hfq⟩ : ∃ fq, fq = fstB l pr i l.length := ⟨_, rfl⟩
          have hrs := HRS.out
          rw [← hfq] at hrs ⊢
          obtain ⟨sq, hsq⟩ : ∃ sq, sq = sumI pr l := ⟨_, rfl⟩
          rw [← hsq] at hsb hrs hce ⊢
          have hin := HIN.out
          have wa : IntKind.i64.wrap (sq + cp) = sq + cp := wrap_small (by omega)
          have wb : IntKind.i64.wrap (sq + cp - 1) = sq + cp - 1 := wrap_small (by omega)
          have wd : (sq + cp - 1).tdiv cp = ceilD sq cp := by rw [Int.tdiv_eq_ediv_of_nonneg (by omega)]; rfl
          have we : IntKind.i64.wrap (ceilD sq cp) = ceilD sq cp := wrap_small (by omega)
          have wf : IntKind.i64.wrap (rn + ceilD sq cp) = rn + ceilD sq cp := wrap_small (by omega)
          have wa' : wrap64 (sq + cp) = sq + cp := wrap64_small (by omega)
          have wb' : wrap64 (sq + cp - 1) = sq + cp - 1 := wrap64_small (by omega)
          have we' : wrap64 (ceilD sq cp) = ceilD sq cp := wrap64_small (by omega)
          have wf' : wrap64 (rn + ceilD sq cp) = rn + ceilD sq cp := wrap64_small (by omega)
          obtain ⟨wk1, wk2⟩ := HWI.out
          have HXY := Lib.hid hXY
          clear hsb hcb hce hrb h64 hfq hsq hin hXY hY hq
          cases fq with
          | false =>
            have HR1 : RowKit.Hid (refF cp l (i + 1) = rn) := Lib.hid (by rw [hrs, if_neg (by simp)]; omega)
            clear hrs
            go_wp2_with fail
            go_roundw
            case rel => exact ⟨i + 1, HIN.out, by simp, by rw [HR1.out], HXY.out⟩
            case measure => exact HMI.out
          | true =>
            have HR1 : RowKit.Hid (refF cp l (i + 1) = rn + ceilD sq cp) := Lib.hid (by rw [hrs, if_pos rfl])
            clear hrs
            go_wp2_with fail
            go_roundw
            case rel => exact ⟨i + 1, HIN.out, by simp, by rw [HR1.out], HXY.out⟩
            case measure => exact HMI.out
    · go_wp2_with fail
      go_ret
      exact ⟨rfl, hX⟩
end Go.Proofs
end

section
/- Loads: the best list as the reference finds it; no world. -/
namespace Go.Proofs
set_option maxHeartbeats 4000000
set_option maxRecDepth 100000
/-- A list that begins with some numbers. -/
def ExtL (p y : List Int) : Prop := y.take p.length = p
/-- The fewest loads of the full lists of a kind, and the first list with so many. -/
def ResL (cap : Int) (l : List ItemT) (P : List Int → Prop) (n : Nat) (b : List Int) : Prop :=
  (n = l.length + 1 ∧ b = [] ∧ ∀ M y, Full cap l M y → ¬ P y) ∨
  (n ≤ l.length ∧ Full cap l n b ∧ P b ∧ (∀ M y, Full cap l M y → P y → n ≤ M) ∧ ∀ y, Full cap l n y → P y → ¬ Bef y b 0)
theorem bef_first {y b : List Int} (hl : y.length = b.length) (h : Bef y b 0) : ∃ i, i < b.length ∧ y.take i = b.take i ∧ at0 y i < at0 b i := by
  rcases h with h | ⟨-, h⟩
  · exact h
  · exfalso
    unfold at0 at h
    rw [List.getElem?_eq_none (by omega)] at h
    simp at h
theorem bef_self (b : List Int) : ¬ Bef b b 0 := fun h => by
  obtain ⟨i, -, -, h⟩ := bef_first rfl h
  omega
theorem lex_total {y b : List Int} (hl : y.length = b.length) (hne : y ≠ b) : Bef y b 0 ∨ Bef b y 0 := by
  apply Classical.byContradiction
  intro hn
  have key : ∀ i, i ≤ b.length → y.take i = b.take i := fun i => by
    induction i with
    | zero => intro _; rfl
    | succ i ih =>
      intro hi
      have e := ih (by omega)
      rw [take_one (by omega), take_one (by omega), e]
      rcases Int.lt_trichotomy (at0 y i) (at0 b i) with h | h | h
      · exact absurd (.inl (.inl ⟨i, by omega, e, h⟩)) hn
      · rw [h]
      · exact absurd (.inr (.inl ⟨i, by omega, e.symm, h⟩)) hn
  have := key b.length (Nat.le_refl _)
  rw [List.take_length, ← hl, List.take_length] at this
  exact hne this
theorem best_uniq {cap : Int} {l : List ItemT} {M M' : Nat} {b b' : List Int} (h : BestL cap l M b) (h' : BestL cap l M' b') : M = M' ∧ b = b' := by
  have e : M = M' := Nat.le_antisymm (h.few _ _ h'.full) (h'.few _ _ h.full)
  subst e
  refine ⟨rfl, ?_⟩
  apply Classical.byContradiction
  intro hne
  rcases lex_total (by rw [h.full.len, h'.full.len]) hne with h1 | h1
  · exact h'.first b h.full h1
  · exact h.first b' h'.full h1
theorem ext_snoc {p y : List Int} {k : Int} (hl : p.length < y.length) : ExtL (p ++ [k]) y ↔ ExtL p y ∧ at0 y p.length = k := by
  unfold ExtL
  rw [List.length_append, List.length_singleton, take_one hl]
  constructor
  · intro h
    have h1 := List.append_inj_left' h rfl
    have h2 := List.append_inj_right' h rfl
    exact ⟨h1, by simpa using h2⟩
  · rintro ⟨h1, h2⟩
    rw [h1, h2]
theorem resL_leaf {cap : Int} (hc : 0 ≤ cap) {l : List ItemT} {p : List Int} {s : List LoadT} (hl : p.length = l.length) (hs : packP cap l p = (0, s)) : ResL cap l (ExtL p) s.length p := by
  have hf := (full_iff hc hl hs s.length).2 (Nat.le_refl _)
  have hi := pk_inv hc (Nat.le_of_eq hl) p.length (Nat.le_refl _) s hs
  have same : ∀ y M, Full cap l M y → ExtL p y → y = p := fun y M h1 h2 => by
    unfold ExtL at h2
    have hy := h1.len
    rw [hl, ← hy, List.take_length] at h2
    exact h2
  refine .inr ⟨by have := hi.few; omega, hf, by unfold ExtL; exact List.take_length, fun M y h1 h2 => ?_, fun y h1 h2 => ?_⟩
  · obtain rfl := same y M h1 h2
    exact (full_iff hc hl hs M).1 h1
  · obtain rfl := same y _ h1 h2
    exact bef_self _
theorem resL_bad {cap : Int} {l : List ItemT} {p : List Int} (hl : p.length ≤ l.length) (hb : ¬ Vd cap l p) : ResL cap l (ExtL p) (l.length + 1) [] := by
  refine .inl ⟨rfl, rfl, fun M y h1 h2 => hb ?_⟩
  have h3 := vd_take h1.ok p.length (by have := h1.len; omega)
  unfold ExtL at h2
  rwa [h2] at h3
theorem resL_0 {cap : Int} {l : List ItemT} {p : List Int} (hl : p.length < l.length) : ResL cap l (fun y => ExtL p y ∧ at0 y p.length < ((0 : Nat) : Int)) (l.length + 1) [] :=
  .inl ⟨rfl, rfl, fun M y h1 h2 => by
    have h3 := (h1.lt _ (at0_in (i := p.length) (by have := h1.len; omega))).1
    have h4 := h2.2
    omega⟩
theorem resL_step {cap : Int} {l : List ItemT} {p : List Int} {k n m : Nat} {b c : List Int} (hl : p.length < l.length) (hA : ResL cap l (fun y => ExtL p y ∧ at0 y p.length < (k : Int)) n b) (hB : ResL cap l (ExtL (p ++ [(k : Int)])) m c) :
    (m < n → ResL cap l (fun y => ExtL p y ∧ at0 y p.length < ((k + 1 : Nat) : Int)) m c) ∧ (¬ m < n → ResL cap l (fun y => ExtL p y ∧ at0 y p.length < ((k + 1 : Nat) : Int)) n b) := by
  have hsp : ∀ M y, Full cap l M y → (ExtL p y ∧ at0 y p.length < ((k + 1 : Nat) : Int)) → (ExtL p y ∧ at0 y p.length < (k : Int)) ∨ ExtL (p ++ [(k : Int)]) y := fun M y h1 h2 => by
    by_cases h3 : at0 y p.length < (k : Int)
    · exact .inl ⟨h2.1, h3⟩
    · exact .inr ((ext_snoc (by have := h1.len; omega)).2 ⟨h2.1, by have := h2.2; omega⟩)
  constructor
  · intro hmn
    rcases hB with ⟨h1, -, -⟩ | ⟨h1, h2, h3, h4, h5⟩
    · exfalso
      rcases hA with ⟨h2, -, -⟩ | ⟨h2, -⟩ <;> omega
    · have e3 := (ext_snoc (by have := h2.len; omega)).1 h3
      refine .inr ⟨h1, h2, ⟨e3.1, by rw [e3.2]; omega⟩, fun M y g1 g2 => ?_, fun y g1 g2 => ?_⟩
      · rcases hsp M y g1 g2 with g3 | g3
        · rcases hA with ⟨-, -, a⟩ | ⟨-, -, -, a, -⟩
          · exact absurd g3 (a M y g1)
          · have := a M y g1 g3
            omega
        · exact h4 M y g1 g3
      · rcases hsp m y g1 g2 with g3 | g3
        · exfalso
          rcases hA with ⟨-, -, a⟩ | ⟨-, -, -, a, -⟩
          · exact a m y g1 g3
          · have := a m y g1 g3
            omega
        · exact h5 y g1 g3
  · intro hmn
    rcases hA with ⟨h1, h2, h3⟩ | ⟨h1, h2, h3, h4, h5⟩
    · refine .inl ⟨h1, h2, fun M y g1 g2 => ?_⟩
      rcases hsp M y g1 g2 with g3 | g3
      · exact h3 M y g1 g3
      · rcases hB with ⟨-, -, a⟩ | ⟨a, -⟩
        · exact a M y g1 g3
        · omega
    · refine .inr ⟨h1, h2, ⟨h3.1, by have := h3.2; omega⟩, fun M y g1 g2 => ?_, fun y g1 g2 g4 => ?_⟩
      · rcases hsp M y g1 g2 with g3 | g3
        · exact h4 M y g1 g3
        · rcases hB with ⟨-, -, a⟩ | ⟨-, -, -, a, -⟩
          · exact absurd g3 (a M y g1)
          · have := a M y g1 g3
            omega
      · rcases hsp n y g1 g2 with g3 | g3
        · exact h5 y g1 g3 g4
        · have e3 := (ext_snoc (by have := g1.len; omega)).1 g3
          have hyl := g1.len
          have hbl := h2.len
          obtain ⟨i, i1, i2, i3⟩ := bef_first (by omega) g4
          have hb3 := h3.2
          rcases Nat.lt_trichotomy i p.length with h | h | h
          · have ey : at0 y i = at0 p i := by
              have := e3.1
              unfold ExtL at this
              rw [← this]
              unfold at0
              rw [List.getElem?_take, if_pos h]
            have eb : at0 b i = at0 p i := by
              have := h3.1
              unfold ExtL at this
              rw [← this]
              unfold at0
              rw [List.getElem?_take, if_pos h]
            omega
          · rw [h, e3.2] at i3
            omega
          · have hh : at0 (y.take i) p.length = at0 (b.take i) p.length := by rw [i2]
            unfold at0 at hh
            rw [List.getElem?_take, if_pos h, List.getElem?_take, if_pos h] at hh
            have hy2 : at0 y p.length = at0 b p.length := hh
            rw [e3.2] at hy2
            omega
theorem resL_all {cap : Int} {l : List ItemT} {p : List Int} {s : List LoadT} {n : Nat} {b : List Int} (hl : p.length < l.length) (hs : packP cap l p = (0, s)) (h : ResL cap l (fun y => ExtL p y ∧ at0 y p.length < ((s.length + 1 : Nat) : Int)) n b) : ResL cap l (ExtL p) n b := by
  have key : ∀ M y, Full cap l M y → ExtL p y → (ExtL p y ∧ at0 y p.length < ((s.length + 1 : Nat) : Int)) := fun M y h1 h2 => by
    refine ⟨h2, ?_⟩
    have hyl := h1.len
    have h3 := vd_take h1.ok (p.length + 1) (by omega)
    unfold ExtL at h2
    rw [take_one (by omega), h2] at h3
    obtain ⟨x, hx⟩ : ∃ x, l[p.length]? = some x := ⟨_, List.getElem?_eq_getElem hl⟩
    unfold Vd at h3
    rw [pack_snoc hx, hs] at h3
    obtain ⟨⟨e, t⟩, ht⟩ : ∃ t, stepL cap (0, s) x (at0 y p.length) = t := ⟨_, rfl⟩
    rw [ht] at h3
    obtain rfl : e = 0 := h3
    have := (stepL_ok ht).2.1
    omega
  rcases h with ⟨h1, h2, h3⟩ | ⟨h1, h2, h3, h4, h5⟩
  · exact .inl ⟨h1, h2, fun M y g1 g2 => h3 M y g1 (key M y g1 g2)⟩
  · exact .inr ⟨h1, h2, h3.1, fun M y g1 g2 => h4 M y g1 (key M y g1 g2), fun y g1 g2 => h5 y g1 (key n y g1 g2)⟩
theorem resL_best {cap : Int} {l : List ItemT} {n M : Nat} {b y : List Int} (h : ResL cap l (ExtL []) n b) (hf : Full cap l M y) : BestL cap l n b := by
  have hE : ∀ z, ExtL [] z := fun z => rfl
  rcases h with ⟨-, -, a⟩ | ⟨h1, h2, h3, h4, h5⟩
  · exact absurd (hE y) (a M y hf)
  · exact ⟨h2, fun M' z g => h4 M' z g (hE z), fun z g => h5 z g (hE z)⟩
end Go.Proofs
end

section
/- Loads: best of the reference. -/
namespace Go.Proofs
open Go.RowKit Go.MapKept
set_option maxHeartbeats 16000000
set_option maxRecDepth 1000000
theorem flatF_preQ {L : List ItemT} {s j : Nat} {u : Value} (h : (flatF encQ (L.take s))[j]? = some u) : (flatF encQ L)[j]? = some u := by
  have e : flatF encQ L = flatF encQ (L.take s) ++ flatF encQ (L.drop s) := by rw [← flatF_append, List.take_append_drop]
  rw [e, List.getElem?_append_left (List.getElem?_eq_some_iff.1 h).1]
  exact h
theorem slcI (A : Option Addr) (c s : Nat) (L : List ItemT) (hs : s ≤ L.length) (hc : L.length ≤ c) : ∃ (A' : Option Addr) (c' : Nat), (∀ W, (Instr.slice 24 (.slice A L.length c) none (some (.int .i64 s)) none).run Tryz.prog W = .ok (.slice A' s c') W) ∧ ∀ W, SlF encQ W (.slice A L.length c) L → SlF encQ W (.slice A' s c') (L.take s) := by
  have hz : ∀ W, (sizeOf (Tryz.prog.elem 24)).run Tryz.prog W = .ok 3 W := fun W => by go_simp
  refine ⟨if c = 0 then A else A.map (·.add 0), c, fun W => ?_, fun W h => ?_⟩
  · rw [run_slice_h W 24 A L.length c (by kernel_rfl) .i64 (s : Int) (by omega) (by omega), hz]
    simp [Result.andThen, sliced]
  · have hl : (L.take s).length = s := by rw [List.length_take]; omega
    rcases h with ⟨h1, h2⟩ | ⟨a, c2, h1, h2⟩
    · injection h1 with e1 e2 e3
      subst e1 e3 h2
      obtain rfl : s = 0 := by simpa using hs
      exact .inl ⟨by simp, by simp⟩
    · injection h1 with e1 _ e3
      subst e1 e3
      by_cases hn : L = []
      · subst hn
        obtain rfl : s = 0 := by simpa using hs
        by_cases hc0 : c = 0
        · rw [if_pos hc0]
          exact .inr ⟨a, c, rfl, fun h => absurd rfl h⟩
        · rw [if_neg hc0]
          exact .inr ⟨a.add 0, c, rfl, fun h => absurd rfl h⟩
      · obtain ⟨h3, h4, h5⟩ := h2 hn
        obtain ⟨b, o, sp⟩ := a
        obtain rfl : sp = none := h3
        have hc0 : c ≠ 0 := by have := List.length_pos_iff.2 hn; omega
        rw [if_neg hc0]
        refine .inr ⟨⟨b, o, none⟩, c, by rw [hl]; simp [Addr.add], fun _ => ⟨rfl, h4, fun j u hj => h5 j u (flatF_preQ hj)⟩⟩
/-- The items that best reads. -/
structure BItems (cp : Int) (l : List ItemT) (cl : Nat) : Prop where
  cap : l.length ≤ cl
  few : l.length ≤ 6
  cr : 0 ≤ cp ∧ cp ≤ 999999999
  at_ : ∀ x ∈ l, 0 ≤ x.2.2 ∧ x.2.2 ≤ 999999999
def BestOk (cp : Int) (l : List ItemT) (Al : Option Addr) (cl f : Nat) : Prop := ∀ (p : List Int) (v : Value) (w : World), SlI w v p → (p = [] → v = .slice none 0 0) → p.length + f = l.length → SlF encQ w (.slice Al l.length cl) l →
    Calls Tryz.prog 46 #[.slice Al l.length cl, .int .i64 cp, v] w fun e w' => (∃ (n : Nat) (b : List Int) (u : Value), e = .returned (.tuple #[.int .i64 n, u]) ∧ SlI w' u b ∧ ResL cp l (ExtL p) n b) ∧ Below w.heap.size w w'
theorem bchk {cp : Int} {l : List ItemT} {Al : Option Addr} {cl : Nat} (h : BItems cp l cl) {p : List Int} {v : Value} {w : World} (hv : SlI w v p) (hp : p.length ≤ l.length) (hl : SlF encQ w (.slice Al l.length cl) l) {e : Int} {s : List LoadT} (hs : packP cp l p = (e, s)) :
    ∃ (A' : Option Addr) (c' : Nat), (∀ W, (Instr.slice 24 (.slice Al l.length cl) none (some (.int .i64 p.length)) none).run Tryz.prog W = .ok (.slice A' p.length c') W) ∧
    Calls Tryz.prog 14 #[.slice A' p.length c', .int .i64 cp, v] w fun e' w' => e' = .returned (.tuple #[.int .i64 s.length, .int .i64 e]) ∧ Below w.heap.size w w' := by
  obtain ⟨A', c', h1, h2⟩ := slcI Al cl p.length l hp h.cap
  have hlt : (l.take p.length).length = p.length := by rw [List.length_take]; omega
  have k := refChk_ok cp (l.take p.length) p (.slice A' p.length c') v w (h2 w hl) hv h.cr (fun x hx => h.at_ x (List.mem_of_mem_take hx)) (by have := h.few; omega)
  have e1 : chkL cp (l.take p.length) p = ((s.length : Int), e) := by
    unfold chkL
    rw [if_neg (fun h => h hlt.symm), packP_take, hs]
  rw [e1] at k
  exact ⟨A', c', h1, k⟩
theorem best_bad {cp : Int} {l : List ItemT} {Al : Option Addr} {cl : Nat} (hI : BItems cp l cl) {p : List Int} {v : Value} {w : World} (hv : SlI w v p) (hp : p.length ≤ l.length) (hl : SlF encQ w (.slice Al l.length cl) l) {e0 : Int} {s : List LoadT} (hs : packP cp l p = (e0, s)) (he : e0 ≠ 0) :
    Calls Tryz.prog 46 #[.slice Al l.length cl, .int .i64 cp, v] w fun e w' => (∃ (n : Nat) (b : List Int) (u : Value), e = .returned (.tuple #[.int .i64 n, u]) ∧ SlI w' u b ∧ ResL cp l (ExtL p) n b) ∧ Below w.heap.size w w' := by
  obtain ⟨A', c', hrun, kC⟩ := bchk (e := e0) (s := s) hI hv hp hl hs
  obtain ⟨Av, cv, rfl⟩ := hv.form
  have hlc : (p.length : Int) ≤ cl := by have := hI.cap; omega
  have hp0 : (0 : Int) ≤ p.length := by omega
  have hw1 : IntKind.i64.wrap ((l.length : Int) + 1) = (l.length : Int) + 1 := wrap_small (by have := hI.few; omega)
  have hw2 : wrap64 ((l.length : Int) + 1) = (l.length : Int) + 1 := wrap64_small (by have := hI.few; omega)
  have HV := Lib.hid hv
  have HL := Lib.hid hl
  have HI := Lib.hid hI
  have HS := Lib.hid hs
  have HP := Lib.hid hp
  have heb : (e0 != 0) = true := by simpa using he
  have HE := Lib.hid he
  clear he
  clear hv hl hI hs hp
  go_enter Tryz.func46, Tryz.ntmps46
  go_wp2_with (go_at_call 14; refine kC.mono ?_)
  rintro e w3 ⟨rfl, hX⟩
  clear kC hrun
  have HR : RowKit.Hid (ResL cp l (ExtL p) (l.length + 1) []) := Lib.hid (resL_bad HP.out (by unfold Vd; rw [HS.out]; exact HE.out))
  go_wp2_with fail
  go_ret2
  exact ⟨⟨l.length + 1, [], _, by simp, .inl ⟨rfl, rfl⟩, HR.out⟩, hX⟩
theorem best_leaf {cp : Int} {l : List ItemT} {Al : Option Addr} {cl : Nat} (hI : BItems cp l cl) {p : List Int} {v : Value} {w : World} (hv : SlI w v p) (hp : p.length ≤ l.length) (hl : SlF encQ w (.slice Al l.length cl) l) {s : List LoadT} (hs : packP cp l p = (0, s)) (hlen : p.length = l.length) :
    Calls Tryz.prog 46 #[.slice Al l.length cl, .int .i64 cp, v] w fun e w' => (∃ (n : Nat) (b : List Int) (u : Value), e = .returned (.tuple #[.int .i64 n, u]) ∧ SlI w' u b ∧ ResL cp l (ExtL p) n b) ∧ Below w.heap.size w w' := by
  obtain ⟨A', c', hrun, kC⟩ := bchk (e := 0) (s := s) hI hv hp hl hs
  obtain ⟨Av, cv, rfl⟩ := hv.form
  have hlc : (p.length : Int) ≤ cl := by have := hI.cap; omega
  have hp0 : (0 : Int) ≤ p.length := by omega
  have hw1 : IntKind.i64.wrap ((l.length : Int) + 1) = (l.length : Int) + 1 := wrap_small (by have := hI.few; omega)
  have hw2 : wrap64 ((l.length : Int) + 1) = (l.length : Int) + 1 := wrap64_small (by have := hI.few; omega)
  have HV := Lib.hid hv
  have HL := Lib.hid hl
  have HI := Lib.hid hI
  have HS := Lib.hid hs
  have HP := Lib.hid hp
  have hle : ((p.length : Int) == (l.length : Int)) = true := by simp; omega
  have HLE := Lib.hid hlen
  clear hlen
  clear hv hl hI hs hp
  go_enter Tryz.func46, Tryz.ntmps46
  go_wp2_with (go_at_call 14; refine kC.mono ?_)
  rintro e w3 ⟨rfl, hX⟩
  clear kC hrun
  have HR : RowKit.Hid (ResL cp l (ExtL p) s.length p) := Lib.hid (resL_leaf HI.out.cr.1 HLE.out HS.out)
  go_wp2_with fail
  go_ret2
  exact ⟨⟨s.length, p, _, rfl, HV.out.below hX, HR.out⟩, hX⟩
theorem best_cons {cp : Int} {l : List ItemT} {Al : Option Addr} {cl f : Nat} (hI : BItems cp l cl) (ih : BestOk cp l Al cl f) {p : List Int} {v : Value} {w : World} (hv : SlI w v p) (hp0 : p ≠ []) (hp : p.length ≤ l.length) (hl : SlF encQ w (.slice Al l.length cl) l) {s : List LoadT} (hs : packP cp l p = (0, s)) (hlt : p.length < l.length) (hf : p.length + (f + 1) = l.length) :
    Calls Tryz.prog 46 #[.slice Al l.length cl, .int .i64 cp, v] w fun e w' => (∃ (n : Nat) (b : List Int) (u : Value), e = .returned (.tuple #[.int .i64 n, u]) ∧ SlI w' u b ∧ ResL cp l (ExtL p) n b) ∧ Below w.heap.size w w' := by
  obtain ⟨A', c', hrun, kC⟩ := bchk (e := 0) (s := s) hI hv hp hl hs
  obtain ⟨Av, cv, rfl⟩ := hv.form
  have hlc : (p.length : Int) ≤ cl := by have := hI.cap; omega
  have hq0 : (0 : Int) ≤ p.length := by omega
  have hw1 : IntKind.i64.wrap ((l.length : Int) + 1) = (l.length : Int) + 1 := wrap_small (by have := hI.few; omega)
  have hw2 : wrap64 ((l.length : Int) + 1) = (l.length : Int) + 1 := wrap64_small (by have := hI.few; omega)
  have HV := Lib.hid hv
  have HL := Lib.hid hl
  have HI := Lib.hid hI
  have HS := Lib.hid hs
  have HP := Lib.hid hp
  have hle : ((p.length : Int) == (l.length : Int)) = false := by simp; omega
  have HLT := Lib.hid hlt
  have HF := Lib.hid hf
  have HSL : RowKit.Hid (s.length ≤ p.length) := Lib.hid (pk_inv hI.cr.1 hp p.length (Nat.le_refl _) s hs).few
  have HNIL := Lib.hid hp0
  clear hlt hf
  clear hv hl hI hs hp hp0
  go_enter Tryz.func46, Tryz.ntmps46
  go_wp2_with (go_at_call 14; refine kC.mono ?_)
  rintro e w3 ⟨rfl, hX⟩
  clear kC hrun
  have hc0 := resL_0 (cap := cp) HLT.out
  have hX0 := Below.refl w3.heap.size w3
  go_wp2_with fail
  go_loopw [10, 11, 12] (fun nv wv kv wr => ∃ (k n : Nat) (b : List Int), k ≤ s.length + 1 ∧ n ≤ l.length + 1 ∧ kv = .int .i64 k ∧ nv = .int .i64 n ∧ SlI wr wv b ∧ ResL cp l (fun y => ExtL p y ∧ at0 y p.length < (k : Int)) n b ∧ Below w3.heap.size w3 wr) (fun _ _ kv _ => s.length + 1 - (intOf kv).toNat)
  case atStart => exact ⟨0, l.length + 1, [], by omega, Nat.le_refl _, rfl, by simp, .inl ⟨rfl, rfl⟩, hc0, hX0⟩
  case round =>
    clear hX0 hc0
    obtain ⟨k, n, b, hk, hn, rfl, rfl, hb, hres, hY⟩ := hrel
    rename World => w4
    have hXY := hX.trans (hY.mono hX.size)
    rcases Nat.lt_or_eq_of_le hk with hkn | rfl
    · have hkd : decide ((k : Int) ≤ (s.length : Int)) = true := decide_eq_true (by omega)
      have hkd1 : decide (k ≤ s.length) = true := decide_eq_true (by omega)
      have HK := Lib.hid (show k + 1 ≤ s.length + 1 from hkn)
      have HM := Lib.hid (show s.length + 1 - (k + 1) < s.length + 1 - k by omega)
      have HWK := Lib.hid (wrapsLQ (show k < 1048576 by have := HSL.out; have := HLT.out; have := HI.out.few; omega))
      have HB := Lib.hid hb
      have HRES := Lib.hid hres
      have HN := Lib.hid hn
      have HY := Lib.hid hY
      clear hb hres hk hkn hn
      obtain ⟨W1, hW1⟩ : ∃ W1, W1 = w4.alloc (.cells #[] 3) := ⟨_, rfl⟩
      have hB1 : Below w4.heap.size w4 W1 := by subst hW1; exact (Below.refl _ _).alloc (Nat.le_refl _) _
      have ho1 : OwnI 3 W1 w4.heap.size (.slice (some ⟨w4.heap.size, 0, none⟩) 0 0) [] := by subst hW1; exact World.ownsRow_lit w4 #[] 0 (Nat.le_refl _) (Nat.zero_le _) rfl
      have HW1 := Lib.hid hW1
      clear hW1
      obtain ⟨ba, oa, rfl, hba, hat⟩ := (HV.out.below hXY).addr (List.length_pos_iff.2 HNIL.out)
      obtain ⟨A2, c2, W2, hap, hown, hg, -, -⟩ := run_append_ints W1 23 w4.heap.size _ [] p ho1 ba oa cv (hat.below hB1 hba) HNIL.out (by have := HLT.out; have := HI.out.few; show 0 + p.length ≤ 100000; omega) hB1.size
      have hB2 : Below w4.heap.size w4 W2 := hB1.grown hg hB1.size (fun g e => by have := (ho1.lt g e).1; omega)
      simp only [List.length_nil, Nat.zero_add, List.nil_append] at hap hown
      have ho2 := hown
      have HAP1 := Lib.hid hap
      clear hap hg hown hat
      obtain ⟨W3, hW3⟩ : ∃ W3, W3 = W2.alloc (.cells #[.int .i64 k] 3) := ⟨_, rfl⟩
      have hB23 : Below W2.heap.size W2 W3 := by subst hW3; exact (Below.refl _ _).alloc (Nat.le_refl _) _
      have hrow3 : RowK W3 3 W2.heap.size [.int .i64 k] := by subst hW3; exact heap_alloc_new W2 _
      have hIK : IAt W3 W2.heap.size 0 [(k : Int)] := fun q x hi => by
        match q, hi with
        | 0, hi =>
          obtain rfl : (k : Int) = x := by simpa using hi
          exact hrow3.cell (by rfl)
        | q + 1, hi => simp at hi
      have hB3 := hB2.trans (hB23.mono hB2.size)
      have ho3 := ho2.keep hB23
      obtain ⟨A4, c4, W4, hap4, hown4, hg4, -, -⟩ := run_append_ints W3 23 w4.heap.size (.slice A2 p.length c2) p [(k : Int)] ho3 W2.heap.size 0 1 hIK (by simp) (by have := HLT.out; have := HI.out.few; simp; omega) hB3.size
      have hB4 : Below w4.heap.size w4 W4 := hB3.grown hg4 hB3.size (fun g e => by have := (ho3.lt g e).1; omega)
      rw [List.length_singleton] at hap4 hown4
      have HAP4 := Lib.hid hap4
      have HW3 := Lib.hid hW3
      have hX4 := hXY.trans (hB4.mono hXY.size)
      have kI := ih (p ++ [(k : Int)]) _ W4 hown4.sl (fun e => by simp at e) (by have := HF.out; simp only [List.length_append, List.length_singleton]; omega) (HL.out.below hX4)
      have HB4 := Lib.hid (And.intro hB4 hX4)
      clear hap4 hW3 hg4 hown4 hIK hrow3 ho3 ho1 hB1 hB23 hB3 hB4 hX4 ho2 hB2
      go_wp2_with (first | (at_builtin; rw [← HW1.out]; refine Lib.wpList_append_run _ rfl _ _ _ _ rfl _ _ rfl rfl _ _ HAP1.out ?_) | (at_builtin; rw [← HW3.out]; refine Lib.wpList_append_run _ rfl _ _ _ _ rfl _ _ rfl rfl _ _ HAP4.out ?_))
      refine kI.mono ?_
      rintro e w6 ⟨⟨m, c, u, rfl, hu, hrc⟩, hB6⟩
      have hB36 : Below w4.heap.size w4 w6 := HB4.out.1.trans (hB6.mono HB4.out.1.size)
      have hY6 := HY.out.trans (hB36.mono HY.out.size)
      obtain ⟨g1, g2⟩ := resL_step HLT.out HRES.out hrc
      have hbl := HB.out.below hB36
      have hml : m ≤ l.length + 1 := by rcases hrc with ⟨h, -⟩ | ⟨h, -⟩ <;> omega
      obtain ⟨zm, hzm⟩ : ∃ zm, decide ((m : Int) < (n : Int)) = zm := ⟨_, rfl⟩
      have HZM := Lib.hid hzm
      have hzn : decide (m < n) = zm := by rw [← hzm]; exact decide_eq_decide.2 ⟨fun h => by omega, fun h => by omega⟩
      have HG := Lib.hid (And.intro g1 g2)
      have HU := Lib.hid (And.intro hu hml)
      have HBL := Lib.hid (And.intro hbl hY6)
      obtain ⟨wk1, wk2⟩ := HWK.out
      clear kI g1 g2 hu hrc hbl hml hB36 hB6 hY6 hXY hY hX
      cases zm with
      | true =>
        have HG1 := Lib.hid (HG.out.1 (by have := of_decide_eq_true HZM.out; omega))
        go_wp2_with fail
        go_roundw
        case rel => exact ⟨k + 1, m, c, HK.out, HU.out.2, by simp, rfl, HU.out.1, HG1.out, HBL.out.2⟩
        case measure => exact HM.out
      | false =>
        have HG1 := Lib.hid (HG.out.2 (by have := of_decide_eq_false HZM.out; omega))
        go_wp2_with fail
        go_roundw
        case rel => exact ⟨k + 1, n, b, HK.out, HN.out, by simp, rfl, HBL.out.1, HG1.out, HBL.out.2⟩
        case measure => exact HM.out
    · have hkd : decide (((s.length + 1 : Nat) : Int) ≤ (s.length : Int)) = false := decide_eq_false (by omega)
      have HR := Lib.hid (And.intro (resL_all HLT.out HS.out hres) hb)
      clear hres hb
      have hkd2 : decide ((s.length : Int) + 1 ≤ (s.length : Int)) = false := decide_eq_false (by omega)
      go_wp2_with fail
      go_ret2
      exact ⟨⟨n, b, _, rfl, HR.out.2, HR.out.1⟩, hXY⟩
theorem best_nil {cp : Int} {l : List ItemT} {Al : Option Addr} {cl f : Nat} (hI : BItems cp l cl) (ih : BestOk cp l Al cl f) {p : List Int} (hpn : p = []) {w : World} (hl : SlF encQ w (.slice Al l.length cl) l) (hlt : 0 < l.length) (hf : f + 1 = l.length) :
    Calls Tryz.prog 46 #[.slice Al l.length cl, .int .i64 cp, .slice none 0 0] w fun e w' => (∃ (n : Nat) (b : List Int) (u : Value), e = .returned (.tuple #[.int .i64 n, u]) ∧ SlI w' u b ∧ ResL cp l (ExtL p) n b) ∧ Below w.heap.size w w' := by
  obtain ⟨s, hsn⟩ : ∃ s : List LoadT, s = [] := ⟨_, rfl⟩
  obtain ⟨A', c', hrun, kC⟩ := bchk (e := 0) (s := []) (p := []) hI (.inl ⟨rfl, rfl⟩ : SlI w (.slice none 0 0) []) (Nat.zero_le _) hl rfl
  have hw1 : IntKind.i64.wrap ((l.length : Int) + 1) = (l.length : Int) + 1 := wrap_small (by have := hI.few; omega)
  have hw2 : wrap64 ((l.length : Int) + 1) = (l.length : Int) + 1 := wrap64_small (by have := hI.few; omega)
  have hle : ((0 : Int) == (l.length : Int)) = false := by simp; omega
  have HLT : RowKit.Hid (p.length < l.length) := Lib.hid (by rw [hpn]; exact hlt)
  have HF := Lib.hid hf
  have HL := Lib.hid hl
  have HI := Lib.hid hI
  have HSL : RowKit.Hid (s.length ≤ 0) := Lib.hid (by rw [hsn]; exact Nat.le_refl _)
  have HS : RowKit.Hid (packP cp l p = (0, s)) := Lib.hid (by rw [hsn, hpn]; rfl)
  have HPN := Lib.hid hpn
  simp only [List.length_nil, Int.natCast_zero] at hrun kC
  clear hl hI hlt hf hpn hsn
  go_enter Tryz.func46, Tryz.ntmps46
  go_wp2_with (go_at_call 14; refine kC.mono ?_)
  rintro e w3 ⟨rfl, hX⟩
  clear kC hrun
  have hc0 := resL_0 (cap := cp) HLT.out
  have hX0 := Below.refl w3.heap.size w3
  go_wp2_with fail
  go_loopw [10, 11, 12] (fun nv wv kv wr => ∃ (k n : Nat) (b : List Int) (kz : Int), kz = k ∧ k ≤ s.length + 1 ∧ n ≤ l.length + 1 ∧ kv = .int .i64 kz ∧ nv = .int .i64 n ∧ SlI wr wv b ∧ ResL cp l (fun y => ExtL p y ∧ at0 y p.length < (k : Int)) n b ∧ Below w3.heap.size w3 wr) (fun _ _ kv _ => s.length + 1 - (intOf kv).toNat)
  case atStart => exact ⟨0, l.length + 1, [], 0, rfl, by omega, Nat.le_refl _, rfl, by simp, .inl ⟨rfl, rfl⟩, hc0, hX0⟩
  case round =>
    clear hX0 hc0
    obtain ⟨k, n, b, kz, hkz, hk, hn, rfl, rfl, hb, hres, hY⟩ := hrel
    rename World => w4
    have hXY := hX.trans (hY.mono hX.size)
    rcases Nat.lt_or_eq_of_le hk with hkn | rfl
    · have hk0 : k = 0 := by have := HSL.out; omega
      have hs0 : s.length = 0 := by have := HSL.out; omega
      obtain rfl : kz = 0 := by omega
      have HK0 := Lib.hid (And.intro hk0 hs0)
      have HK := Lib.hid (show k + 1 ≤ s.length + 1 from hkn)
      have HB := Lib.hid hb
      have HRES := Lib.hid hres
      have HN := Lib.hid hn
      have HY := Lib.hid hY
      clear hb hres hk hkn hn hkz hk0 hs0
      obtain ⟨W1, hW1⟩ : ∃ W1, W1 = w4.alloc (.cells #[] 3) := ⟨_, rfl⟩
      have hB1 : Below w4.heap.size w4 W1 := by subst hW1; exact (Below.refl _ _).alloc (Nat.le_refl _) _
      have ho1 : OwnI 3 W1 w4.heap.size (.slice (some ⟨w4.heap.size, 0, none⟩) 0 0) [] := by subst hW1; exact World.ownsRow_lit w4 #[] 0 (Nat.le_refl _) (Nat.zero_le _) rfl
      have HW1 := Lib.hid hW1
      clear hW1
      obtain ⟨W3, hW3⟩ : ∃ W3, W3 = W1.alloc (.cells #[.int .i64 0] 3) := ⟨_, rfl⟩
      have hB23 : Below W1.heap.size W1 W3 := by subst hW3; exact (Below.refl _ _).alloc (Nat.le_refl _) _
      have hrow3 : RowK W3 3 W1.heap.size [.int .i64 0] := by subst hW3; exact heap_alloc_new W1 _
      have hIK : IAt W3 W1.heap.size 0 [(0 : Int)] := fun q x hi => by
        match q, hi with
        | 0, hi =>
          obtain rfl : (0 : Int) = x := by simpa using hi
          exact hrow3.cell (by rfl)
        | q + 1, hi => simp at hi
      have hB3 := hB1.trans (hB23.mono hB1.size)
      have ho3 := ho1.keep hB23
      obtain ⟨A4, c4, W4, hap4, hown4, hg4, -, -⟩ := run_append_ints W3 23 w4.heap.size (.slice (some ⟨w4.heap.size, 0, none⟩) 0 0) [] [(0 : Int)] ho3 W1.heap.size 0 1 hIK (by simp) (by simp) hB3.size
      have hB4 : Below w4.heap.size w4 W4 := hB3.grown hg4 hB3.size (fun g e => by have := (ho3.lt g e).1; omega)
      simp only [List.length_singleton, List.length_nil, Nat.zero_add] at hap4 hown4
      have hx4 : (Builtin.append_ #[23, 23] 23 #[.slice (some ⟨w4.heap.size, 0, none⟩) 0 0, .slice (some ⟨W1.heap.size, 0, none⟩) 1 1]).run Tryz.prog W3 = .ok (.slice (some ⟨w4.heap.size + 1 + 1, 0, none⟩) 1 ((Question.appendCap 1 0 3).cut (w4.tape w4.drawn (Question.appendCap 1 0 3)))) (((w4.alloc (.cells #[] 3)).alloc (.cells #[.int .i64 0] 3)).alloc (.cells (#[.int .i64 0] ++ Builtin.zeroCells #[.int .i64 0] (((Question.appendCap 1 0 3).cut (w4.tape w4.drawn (Question.appendCap 1 0 3))) - 1)) 3)).drew := by
        obtain ⟨jI, hjI, hI0, hI1, hI2⟩ := info_parts (P := Tryz.prog) (e := 3) (z := .int .i64 0) (size := 1) (bytes := 8) (by kernel_rfl)
        have h := run_append_grow (P := Tryz.prog) W3 23 23 3 jI _ Tryz.underlying23 hjI hI0 ⟨w4.heap.size, 0, none⟩ 0 0 [] (by simp) (fun j v hj => by simp at hj) ⟨W1.heap.size, 0, none⟩ 1 1 [.int .i64 0] (by rw [hI1]; rfl) (fun j v hj => by
          rw [addr_add0]
          match j, hj with
          | 0, hj =>
            obtain rfl : Value.int .i64 (0 : Int) = v := by simpa using hj
            exact hrow3.cell (by rfl)
          | j + 1, hj => simp at hj) (by omega) (by omega) (by rw [hI2]; exact growslice_fits (by omega) (by omega))
        have hsz : W3.heap.size = w4.heap.size + 1 + 1 := by rw [hW3, HW1.out]; simp
        rw [h, hsz, hW3, HW1.out]
        rfl
      have e4 := hap4.symm.trans hx4
      injection e4 with e41 e42
      injection e41 with e43 _ e44
      subst e43 e44
      have HE42 := Lib.hid e42
      clear hx4 e42
      have HAP4 := Lib.hid hap4
      have HW3 := Lib.hid hW3
      have hX4 := hXY.trans (hB4.mono hXY.size)
      have kI := ih ([] ++ [(0 : Int)]) _ W4 hown4.sl (fun e => by simp at e) (by have := HF.out; simp only [List.length_append, List.length_singleton, List.length_nil]; omega) (HL.out.below hX4)
      have hke : (k : Int) = 0 := by have := HK0.out.1; omega
      have HKE := Lib.hid hke
      have HB4 := Lib.hid (And.intro hB4 hX4)
      clear hke hap4 hW3 hg4 hown4 hIK hrow3 ho3 ho1 hB1 hB23 hB3 hB4 hX4
      go_wp2_with fail
      rw [← HE42.out]
      refine kI.mono ?_
      rintro e w6 ⟨⟨m, c, u, rfl, hu, hrc⟩, hB6⟩
      have hB36 : Below w4.heap.size w4 w6 := HB4.out.1.trans (hB6.mono HB4.out.1.size)
      have hY6 := HY.out.trans (hB36.mono HY.out.size)
      obtain ⟨g1, g2⟩ := resL_step HLT.out HRES.out (m := m) (b := b) (c := c) (by rw [HKE.out, HPN.out]; exact hrc)
      have hbl := HB.out.below hB36
      have hml : m ≤ l.length + 1 := by rcases hrc with ⟨h, -⟩ | ⟨h, -⟩ <;> omega
      obtain ⟨zm, hzm⟩ : ∃ zm, decide ((m : Int) < (n : Int)) = zm := ⟨_, rfl⟩
      have HZM := Lib.hid hzm
      have hzn : decide (m < n) = zm := by rw [← hzm]; exact decide_eq_decide.2 ⟨fun h => by omega, fun h => by omega⟩
      have HG := Lib.hid (And.intro g1 g2)
      have HU := Lib.hid (And.intro hu hml)
      have HBL := Lib.hid (And.intro hbl hY6)
      clear kI g1 g2 hu hrc hbl hml hB36 hB6 hY6 hXY hY hX
      cases zm with
      | true =>
        have HG1 := Lib.hid (HG.out.1 (by have := of_decide_eq_true HZM.out; omega))
        go_wp2_with fail
        go_roundw
        case rel => exact ⟨k + 1, m, c, 1, by have := HK0.out.1; omega, HK.out, HU.out.2, by simp, rfl, HU.out.1, HG1.out, HBL.out.2⟩
        case measure => simp [intOf, HK0.out.2]
      | false =>
        have HG1 := Lib.hid (HG.out.2 (by have := of_decide_eq_false HZM.out; omega))
        go_wp2_with fail
        go_roundw
        case rel => exact ⟨k + 1, n, b, 1, by have := HK0.out.1; omega, HK.out, HN.out, by simp, rfl, HBL.out.1, HG1.out, HBL.out.2⟩
        case measure => simp [intOf, HK0.out.2]
    · have hkd : decide (kz ≤ 0) = false := decide_eq_false (by omega)
      clear hkz
      have HR := Lib.hid (And.intro (resL_all HLT.out HS.out hres) hb)
      clear hres hb
      go_wp2_with fail
      go_ret2
      exact ⟨⟨n, b, _, rfl, HR.out.2, HR.out.1⟩, hXY⟩
theorem best_all {cp : Int} {l : List ItemT} {Al : Option Addr} {cl : Nat} (hI : BItems cp l cl) : ∀ f, BestOk cp l Al cl f
  | f, p, v, w, hv, hn, hf, hl => by
    obtain ⟨⟨e, s⟩, hs⟩ : ∃ t, packP cp l p = t := ⟨_, rfl⟩
    by_cases he : e = 0
    · subst he
      match f, hf with
      | 0, hf => exact best_leaf hI hv (by omega) hl hs (by omega)
      | f + 1, hf =>
        have ih := best_all (Al := Al) hI f
        by_cases hp : p = []
        · subst hp
          obtain rfl := hn rfl
          exact best_nil hI ih rfl hl (by simp at hf; omega) (by simpa using hf)
        · exact best_cons hI ih hv hp (by omega) hl hs (by omega) hf
    · exact best_bad hI hv (by omega) hl hs he
end Go.Proofs
end

section
/- Loads: Loads of the reference. -/
namespace Go.Proofs
open Go.RowKit Go.MapKept
set_option maxHeartbeats 16000000
set_option maxRecDepth 1000000
theorem refLoads_ok {cp : Int} {l : List ItemT} {Al : Option Addr} {cl : Nat} (hI : BItems cp l cl) (hb : ∀ x ∈ l, x.2.2 ≤ cp) (w : World) (hl : SlF encQ w (.slice Al l.length cl) l) :
    Calls Tryz.prog 16 #[.slice Al l.length cl, .int .i64 cp] w fun e w' => (∃ (n : Nat) (b : List Int) (u : Value), e = .returned u ∧ SlI w' u b ∧ BestL cp l n b) ∧ Below w.heap.size w w' := by
  have kB := best_all (Al := Al) hI l.length [] _ w (.inl ⟨rfl, rfl⟩) (fun _ => rfl) (by simp) hl
  have HF := Lib.hid (own_full hb)
  clear hI hb hl
  go_enter Tryz.func16, Tryz.ntmps16
  go_wp2_with (go_at_call 46; refine kB.mono ?_)
  rintro e w3 ⟨⟨n, b, u, rfl, hu, hr⟩, hX⟩
  have HR := Lib.hid (And.intro hu (resL_best hr HF.out))
  clear kB hu hr
  go_wp2_with fail
  go_ret
  exact ⟨⟨n, b, u, rfl, HR.out.1, HR.out.2⟩, hX⟩
end Go.Proofs
end

section
/- ShopLoads: what its law's own functions say; an error of Fewest; a list's error leaves no loads. -/
namespace Go.Proofs
open Go.RowKit Go.MapKept
set_option maxHeartbeats 16000000
set_option maxRecDepth 1000000
theorem packK_zero {cp : Int} {l : List ItemT} {ns : List Int} : ∀ k, (packK cp l ns k).1 ≠ 0 → (packK cp l ns k).2 = []
  | 0, h => absurd rfl h
  | k + 1, h => by
    have ih := packK_zero (cp := cp) (l := l) (ns := ns) k
    unfold packK at h ⊢
    split
    · rename_i x n hx hn
      simp only [hx, hn] at h
      unfold stepL at h ⊢
      by_cases h0 : (packK cp l ns k).1 ≠ 0
      · rw [if_pos h0]
        exact ih h0
      · rw [if_neg h0] at h ⊢
        split
        · rfl
        · split
          · rfl
          · split
            · rfl
            · rename_i g1 g2 g3
              rw [if_neg g1, if_neg g2, if_neg g3] at h
              exact absurd rfl h
    · rename_i hno
      refine ih ?_
      split at h
      · rename_i x n hx hn
        exact absurd hn (hno x n hx)
      · exact h
theorem chkL_zero {cp : Int} {l : List ItemT} {ns : List Int} (h : (chkL cp l ns).2 ≠ 0) : (chkL cp l ns).1 = 0 := by
  unfold chkL at h ⊢
  split
  · rfl
  · rename_i hl
    rw [if_neg hl] at h
    have := packK_zero (cp := cp) (l := l) (ns := ns) ns.length h
    show ((packP cp l ns).2.length : Int) = 0
    unfold packP
    rw [this]
    rfl
theorem ownF_cap {w : World} {T : TypeId} {B n cap : Nat} {A : Option Addr} {l : List ItemT} (h : OwnF encQ 3 T w B (.slice A n cap) l) : l.length ≤ cap := by
  rcases h.2 with ⟨h1, h2⟩ | ⟨g, c, cur, h1, -, -, h2, -⟩
  · omega
  · injection h1 with _ _ h1
    omega
theorem fewestE_ok (cp n : Int) (l : List ItemT) (v : Value) (w : World) (hl : SlF encQ w v l) (hx : IteX cp l n) (hz : n ≠ 0) :
    Calls Tryz.prog 10 #[v, .int .i64 cp] w fun e w' => e = .returned (.tuple #[.int .i64 0, .int .i64 n]) ∧ Below w.heap.size w w' := by
  obtain ⟨Al, c, rfl⟩ := hl.form
  obtain ⟨W1, hW1⟩ : ∃ W1, W1 = w.alloc (.cells #[.int .i64 cp] 3) := ⟨_, rfl⟩
  have hX1 : Below w.heap.size w W1 := by subst hW1; exact (Below.refl _ _).alloc (Nat.le_refl _) _
  have c1 : W1.cell? ⟨w.heap.size, 0, none⟩ = some (.int .i64 cp) := by subst hW1; exact (Boxed.new _ _ _).cell
  have kI := iteN_ok cp n _ l W1 (hl.below hX1) hx
  have hnz : (n != 0) = true := by simpa using hz
  have HW1 := Lib.hid hW1
  clear hl hx hz hW1
  go_enter Tryz.func10, Tryz.ntmps10
  go_wp2_with fail
  rw [← HW1.out]
  go_wp2_with (go_at_call 17; refine kI.mono ?_)
  rintro e w2 ⟨rfl, hB⟩
  clear kI
  go_wp2_with fail
  go_ret2
  exact ⟨rfl, hX1.trans (hB.mono hX1.size)⟩
theorem refSameInts_ok (l : List Int) (v1 v2 : Value) (w : World) (h1 : SlI w v1 l) (h2 : SlI w v2 l) (hn : l.length ≤ 1000) :
    Calls Tryz.prog 29 #[v1, v2] w fun e w' => e = .returned (.bool true) ∧ Below w.heap.size w w' := by
  obtain ⟨A1, c1, rfl⟩ := h1.form
  obtain ⟨A2, c2, rfl⟩ := h2.form
  have HN := Lib.hid hn
  have hB0 := Below.refl w.heap.size w
  clear hn
  go_enter Tryz.func29, Tryz.ntmps29
  go_wp2_with fail
  go_loopw [5] (fun i wr => ∃ k : Nat, k ≤ l.length ∧ i = .int .i64 k ∧ Below w.heap.size w wr) (fun i _ => l.length - (intOf i).toNat)
  case atStart => exact ⟨0, Nat.zero_le _, rfl, hB0⟩
  case round =>
    clear hB0
    obtain ⟨k, hk, rfl, hX⟩ := hrel
    rename World => w3
    rcases Nat.lt_or_eq_of_le hk with hkn | rfl
    · obtain ⟨b, ob, x, rfl, -, hb, hx, rx⟩ := (h1.below hX).cells hkn
      obtain ⟨b', ob', x', rfl, -, hb', hx', rx'⟩ := (h2.below hX).cells hkn
      obtain rfl := Option.some.inj (hx.symm.trans hx')
      have hi0 : (0 : Int) ≤ k := by omega
      have hi1 : (k : Int) < l.length := by omega
      have HK := Lib.hid (show k + 1 ≤ l.length from hkn)
      have HM := Lib.hid (show l.length - (k + 1) < l.length - k by omega)
      obtain ⟨wk1, wk2⟩ := wrapsLQ (show k < 1048576 by have := HN.out; omega)
      have HX := Lib.hid (below_drewN hX)
      clear hx hx' hX
      go_wp2_with fail
      go_quiet (fail)
      go_wp2_with fail
      go_roundw
      case rel => exact ⟨k + 1, HK.out, by simp, HX.out _⟩
      case measure => exact HM.out
    · go_wp2_with fail
      go_ret
      exact ⟨rfl, hX⟩
theorem lawWhenJ_ok (b : Bool) (n : Int) (w : World) : Calls Tryz.prog 13 #[.bool b, .int .i64 n] w fun e w' => e = .returned (.int .i64 (if b then n else 0)) ∧ w' = w := by
  cases b
  · go_enter Tryz.func13, Tryz.ntmps13
    go_wp2
    go_ret
    exact ⟨rfl, rfl⟩
  · go_enter Tryz.func13, Tryz.ntmps13
    go_wp2
    go_ret
    exact ⟨rfl, rfl⟩
theorem lawIntJ_ok (a e b : Int) (h0 : e = 0 → a = b) (h1 : e ≠ 0 → a = 0) (w : World) : Calls Tryz.prog 18 #[.int .i64 a, .int .i64 e, .int .i64 b, .int .i64 e] w fun x w' => x = .returned (.bool true) ∧ w' = w := by
  by_cases he : e = 0
  · obtain rfl := h0 he
    subst he
    clear h0 h1
    go_enter Tryz.func18, Tryz.ntmps18
    go_wp2
    all_goals (go_ret; exact ⟨rfl, rfl⟩)
  · obtain rfl := h1 he
    clear h0 h1
    have h1 : (e == 0) = false := by simpa using he
    have h2 : (e != 0) = true := by simpa using he
    clear he
    go_enter Tryz.func18, Tryz.ntmps18
    go_wp2
    all_goals (go_ret; exact ⟨rfl, rfl⟩)
theorem lawFirst2J (a b : Int) (blk cap : Nat) (w : World) (h0 : w.cell? ⟨blk, 0, none⟩ = some (.int .i64 a)) (h1 : w.cell? ⟨blk, 1, none⟩ = some (.int .i64 b)) :
    Calls Tryz.prog 12 #[.slice (some ⟨blk, 0, none⟩) 2 cap] w fun e w' => e = .returned (.int .i64 (or3 a b 0)) ∧ w' = w := by
  go_enter Tryz.func12, Tryz.ntmps12
  go_wp2
  refine wp_loop_rounds 3 ?_
  rw [rounds_succ]
  go_wp2
  all_goals (try (rw [rounds_succ]; go_wp2))
  all_goals (try (rw [rounds_succ]; go_wp2))
  all_goals go_ret
  all_goals (refine ⟨?_, rfl⟩; unfold or3; simp_all)
theorem lawList0_ok (v1 v2 : Value) (l : List Int) (w : World) (h1 : SlI w v1 l) (h2 : SlI w v2 l) (hn : l.length ≤ 1000) :
    Calls Tryz.prog 19 #[v1, .int .i64 0, v2, .int .i64 0] w fun e w' => e = .returned (.bool true) ∧ Below w.heap.size w w' := by
  have kS := refSameInts_ok l v1 v2 w h1 h2 hn
  clear h1 h2
  go_enter Tryz.func19, Tryz.ntmps19
  go_wp2_with (go_at_call 29; refine kS.mono ?_; rintro e w2 ⟨rfl, hB⟩)
  go_ret
  exact ⟨rfl, hB⟩
theorem lawListE_ok (e : Int) (he : e ≠ 0) (w : World) :
    Calls Tryz.prog 19 #[.slice none 0 0, .int .i64 e, .slice none 0 0, .int .i64 e] w fun x w' => x = .returned (.bool true) ∧ w' = w := by
  have h1 : (e == 0) = false := by simpa using he
  have h2 : (e != 0) = true := by simpa using he
  clear he
  go_enter Tryz.func19, Tryz.ntmps19
  go_wp2
  all_goals (go_ret; exact ⟨rfl, rfl⟩)
end Go.Proofs
end
