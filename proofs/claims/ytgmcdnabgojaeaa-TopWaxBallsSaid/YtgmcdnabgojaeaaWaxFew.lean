/- waxFew, for any sets. -/
import Derived.Test.YtgmcdnabgojaeaaFewR
import Derived.Test.YtgmcdnabgojaeaaCheckV
import Derived.Deep.QuietTactic
import Derived.BigQuiet
namespace Go.Proofs
open Go.RowKit
set_option maxHeartbeats 8000000
set_option maxRecDepth 1000000
def nearB (c : Cel) : Bool := decide (withinI c.1 (-100) 100 + withinI c.2.1 (-100) 100 + withinI c.2.2 (-100) 100 = 0)
def waxB (n : Int) (Ls : List (List Cel)) : Bool := Ls.all fun l => fewB n 512 l && l.all nearB
theorem all_take {α : Type} (f : α → Bool) {l : List α} {k : Nat} {c : α} (hc : l[k]? = some c) : (l.take (k + 1)).all f = ((l.take k).all f && f c) := by
  obtain ⟨h1, h2⟩ := List.getElem?_eq_some_iff.1 hc
  rw [List.take_succ_eq_append_getElem h1, h2, List.all_append]
  simp
theorem all_false {α : Type} (f : α → Bool) {l : List α} {k : Nat} {c : α} (hc : l[k]? = some c) (h : f c = false) : l.all f = false := by
  rw [List.all_eq_false]
  exact ⟨c, List.mem_of_getElem? hc, by rw [h]; simp⟩
theorem waxFew_ok (n : Int) (hn4 : n ≤ 4096) (vs : List Value) (Ls : List (List Cel)) (blk off cap : Nat) (w : World) (hlen : vs.length = Ls.length) (hcap : vs.length ≤ 1000) (hb : blk < w.heap.size)
    (hrow : ∀ (i : Nat) (v : Value), vs[i]? = some v → w.cell? ⟨blk, off + i, none⟩ = some v) (hsl : ∀ (i : Nat) (v : Value) (l : List Cel), vs[i]? = some v → Ls[i]? = some l → Sl w v l ∧ l.length ≤ maxLen) :
    Calls Try.prog 4 #[.int .i64 n, .slice (some ⟨blk, off, none⟩) vs.length cap] w fun e w' => e = .returned (.bool (waxB n Ls)) ∧ Below w.heap.size w w' := by
  have hle1 : vs.length ≤ Ls.length := by omega
  have hle2 : Ls.length ≤ vs.length := by omega
  clear hlen
  go_enter Try.func4, Try.ntmps4
  go_wp2
  go_loopw [11] (fun i wr => ∃ k : Nat, k ≤ vs.length ∧ i = .int .i64 k ∧ Below w.heap.size w wr ∧ (Ls.take k).all (fun l => fewB n 512 l && l.all nearB) = true) (fun i _ => vs.length - (intOf i).toNat)
  case atStart => exact ⟨0, Nat.zero_le _, rfl, Below.refl _ _, rfl⟩
  case round =>
    obtain ⟨k, hk, rfl, hBel, hall⟩ := hrel
    rename World => w1
    rcases Nat.lt_or_eq_of_le hk with hkn | rfl
    · obtain ⟨v, hv⟩ : ∃ v, vs[k]? = some v := ⟨_, List.getElem?_eq_getElem hkn⟩
      obtain ⟨l, hl⟩ : ∃ l, Ls[k]? = some l := ⟨_, List.getElem?_eq_getElem (by omega)⟩
      obtain ⟨hs, hml⟩ := hsl k v l hv hl
      have hr := (hBel.cell (p := ⟨blk, _, none⟩) hb).trans (hrow k v hv)
      have hs1 := hs.below hBel
      have hfew := few_ok l v n 512 w1 hs1 hml hn4
      obtain ⟨A, lcap, rfl⟩ := hs.form
      have hk0 : (0 : Int) ≤ k := by omega
      have hk1 : (k : Int) < vs.length := by omega
      have hat := all_take (fun l => fewB n 512 l && l.all nearB) hl
      rw [hall, Bool.true_and] at hat
      have hfl := all_false (fun l => fewB n 512 l && l.all nearB) hl
      unfold maxLen at hml
      clear hrow hsl hall hs hv hl
      cases hf : fewB n 512 l with
      | false =>
        rw [hf] at hfew
        have hres : waxB n Ls = false := hfl (by simp only [hf, Bool.false_and])
        have Hres := Lib.hid hres
        clear hat hfl hf hres hs1
        go_wp2_with (go_at_call 18; refine hfew.mono ?_; rintro e w2 ⟨rfl, hB2⟩)
        go_ret
        exact ⟨by rw [Hres.out]; rfl, hBel.trans (hB2.mono hBel.size)⟩
      | true =>
        rw [hf] at hfew
        simp only [hf, Bool.true_and] at hat hfl
        have Hat := Lib.hid hat
        have Hfl := Lib.hid hfl
        have hln : (l.length : Int) ≤ 4096 := by
          unfold fewB at hf
          simp only [Bool.and_eq_true, decide_eq_true_eq] at hf
          omega
        clear hat hfl hf hml
        go_wp2_with (go_at_call 18; refine hfew.mono ?_; rintro e w2 ⟨rfl, hB2⟩)
        have hs2 := hs1.below hB2
        have hBel2 := hBel.trans (hB2.mono hBel.size)
        clear hs1 hfew hr hB2
        go_loopw [21] (fun j w3 => ∃ i : Nat, i ≤ l.length ∧ j = .int .i64 i ∧ Below w2.heap.size w2 w3 ∧ (l.take i).all nearB = true) (fun j _ => l.length - (intOf j).toNat)
        case atStart => exact ⟨0, Nat.zero_le _, rfl, Below.refl _ _, rfl⟩
        case round =>
          obtain ⟨i, hi, rfl, hB3, hall⟩ := hrel
          rename World => w3
          have hBel3 := hBel2.trans (hB3.mono hBel2.size)
          rcases Nat.lt_or_eq_of_le hi with hin | rfl
          · obtain ⟨b, o, x, y, z, rfl, -, hb2, hc, r0, r1, r2⟩ := hs2.cells hin
            have R0 := (hB3.cell (p := ⟨b, _, none⟩) hb2).trans r0
            have R1 := (hB3.cell (p := ⟨b, _, none⟩) hb2).trans r1
            have R2 := (hB3.cell (p := ⟨b, _, none⟩) hb2).trans r2
            have hi0 : (0 : Int) ≤ i := by omega
            have hi1 : (i : Int) < l.length := by omega
            have hat := all_take nearB hc
            rw [hall, Bool.true_and] at hat
            have hfl := all_false nearB hc
            have ho : ∀ a : Int, withinI a (-100) 100 = 0 ∨ withinI a (-100) 100 = 3 := fun a => by
              unfold withinI
              split
              · exact .inr rfl
              · exact .inl rfl
            have ox := ho x
            have oy := ho y
            have oz := ho z
            have hnb : nearB (x, y, z) = decide (withinI x (-100) 100 + withinI y (-100) 100 + withinI z (-100) 100 = 0) := rfl
            rw [hnb] at hat hfl
            clear hs2 r0 r1 r2 hc hnb ho hall
            have hwa : IntKind.i64.wrap (withinI x (-100) 100 + withinI y (-100) 100) = withinI x (-100) 100 + withinI y (-100) 100 := wrapS (by omega)
            have hwb : IntKind.i64.wrap (withinI x (-100) 100 + withinI y (-100) 100 + withinI z (-100) 100) = withinI x (-100) 100 + withinI y (-100) 100 + withinI z (-100) 100 := wrapS (by omega)
            by_cases hsum : withinI x (-100) 100 + withinI y (-100) 100 + withinI z (-100) 100 = 0
            · have hz : (withinI x (-100) 100 + withinI y (-100) 100 + withinI z (-100) 100 != 0) = false := by rw [bne_eq_false_iff_eq]; exact hsum
              have hat' : (l.take (i + 1)).all nearB = true := by rw [hat]; exact decide_eq_true hsum
              have Hat' := Lib.hid hat'
              clear hat hfl hat' hsum ox oy oz
              go_upto_region 9 with fail
              go_quiet ((go_at_call 19; exact Calls.quiet_of_same (checkRange_ok _ _ _ _)))
              go_wp2
              exact ⟨⟨i + 1, hin, rfl, ⟨hB3.os, hB3.tape, hB3.output, Nat.le_trans hB3.size (by simp), fun k hk => (hB3.alloc hB3.size _).block k hk⟩, Hat'.out⟩, by simp [intOf]; omega⟩
            · have hz : (withinI x (-100) 100 + withinI y (-100) 100 + withinI z (-100) 100 != 0) = true := by rw [bne_iff_ne]; exact hsum
              have hres : waxB n Ls = false := Hfl.out (hfl (decide_eq_false hsum))
              have Hres := Lib.hid hres
              clear hat hfl hsum ox oy oz hres
              go_upto_region 9 with fail
              go_quiet ((go_at_call 19; exact Calls.quiet_of_same (checkRange_ok _ _ _ _)))
              go_wp2
              go_ret
              exact ⟨by rw [Hres.out]; rfl, ⟨hBel3.os, hBel3.tape, hBel3.output, Nat.le_trans hBel3.size (by simp), fun k hk => (hBel3.alloc hBel3.size _).block k hk⟩⟩
          · have hat' : (Ls.take (k + 1)).all (fun l => fewB n 512 l && l.all nearB) = true := by rw [Hat.out, ← hall, List.take_length]
            have Hat' := Lib.hid hat'
            clear hat' hall hs2
            go_wp2
            exact ⟨⟨k + 1, hkn, rfl, hBel3, Hat'.out⟩, by simp [intOf]; omega⟩
    · have hres : waxB n Ls = true := by
        unfold waxB
        rw [← hall, List.take_of_length_le hle2]
      have Hres := Lib.hid hres
      clear hall hres hsl hrow
      go_wp2
      go_ret
      exact ⟨by rw [Hres.out]; rfl, hBel⟩
end Go.Proofs
