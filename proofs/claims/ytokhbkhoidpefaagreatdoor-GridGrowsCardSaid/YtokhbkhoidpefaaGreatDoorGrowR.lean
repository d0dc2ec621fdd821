/- The reference's Grow. -/
import Derived.Test.YtokhbkhoidpefaaGreatDoorNear
import Derived.Test.YtokhbkhoidpefaaGreatDoorStepA
import Derived.Test.YtokhbkhoidpefaaGreatDoorGoodT
namespace Go.Proofs
open Go.RowKit
set_option maxHeartbeats 8000000
set_option maxRecDepth 1000000
/-- A set grown by some steps, as a list with repetitions. -/
def growN : Nat → List Cel → List Cel
  | 0, l => l
  | n + 1, l => (growN n l).flatMap fun c => c :: nearL c
theorem mem_step {L : List Cel} {c : Cel} : (c ∈ L.flatMap fun c => c :: nearL c) ↔ c ∈ L ∨ ∃ d ∈ L, c ∈ nearL d := by
  rw [List.mem_flatMap]
  constructor
  · rintro ⟨d, hd, h⟩
    rcases List.mem_cons.1 h with rfl | h
    · exact .inl hd
    · exact .inr ⟨d, hd, h⟩
  · rintro (h | ⟨d, hd, h⟩)
    · exact ⟨c, h, List.mem_cons_self ..⟩
    · exact ⟨d, hd, List.mem_cons_of_mem _ h⟩
theorem near_step {c d : Cel} {b : Int} (hc : Near c b) (hd : d ∈ nearL c) : Near d (b + 1) := by
  obtain ⟨x, y, z⟩ := c
  unfold nearL at hd
  unfold Near at hc ⊢
  simp only [List.mem_cons, List.mem_nil_iff, or_false] at hd
  rcases hd with rfl | rfl | rfl | rfl | rfl | rfl <;> (dsimp only at hc ⊢; omega)
theorem near_grow {l : List Cel} {b : Int} (h : ∀ c ∈ l, Near c b) : ∀ n : Nat, ∀ c ∈ growN n l, Near c (b + n)
  | 0, c, hc => by
    have := h c hc
    rwa [show b + ((0 : Nat) : Int) = b by omega]
  | n + 1, c, hc => by
    rcases mem_step.1 hc with hc | ⟨d, hd, hc⟩
    · exact (near_grow h n c hc).mono (by omega)
    · have := near_step (near_grow h n d hd) hc
      rwa [show b + ((n + 1 : Nat) : Int) = b + n + 1 by omega]
theorem refGrow_ok (l : List Cel) (v : Value) (n : Nat) (w : World) (hl : Sl w v l) (hn : l.length ≤ 4096) (hnear : ∀ c ∈ l, Near c 1000) (hn1 : n ≤ 64) (hup : Up l)
    (hbig : ∀ i, i ≤ n → ∀ S : List Cel, S.Nodup → (∀ c ∈ S, c ∈ growN i l) → S.length ≤ 4096) :
    Calls Tryz.prog 38 #[v, .int .i64 n] w fun e w' => ∃ v' out, e = .returned v' ∧ Own w' w.heap.size v' out ∧ Up out ∧ (∀ c, c ∈ out ↔ c ∈ growN n l) ∧ Below w.heap.size w w' := by
  have hE : Own (w.alloc (.cells #[] 24)) w.heap.size (.slice (some ⟨w.heap.size, 0, none⟩) 0 0) [] := World.ownsRow_lit w #[] 0 (Nat.le_refl _) (Nat.zero_le _) rfl
  have hB0 : Below w.heap.size w (w.alloc (.cells #[] 24)) := (Below.refl _ _).alloc (Nat.le_refl _) _
  have hl0 := hl.below hB0
  have hng := near_grow hnear
  go_enter Tryz.func38, Tryz.ntmps38
  go_wp2_with (at_builtin; refine wpList_append_sl rfl _ _ rfl w.heap.size ?cE _ [] rfl hE _ l rfl hl0 ?cC ?_)
  case cC => simp; omega
  case cE => simp
  intro v1 w1 hown1 hB1
  have hB01 := hB0.trans hB1
  clear hE hl0 hB0 hB1 hnear
  go_wp2
  go_loopw [5, 6] (fun s t wr => ∃ (i : Nat) (L : List Cel), i ≤ n ∧ t = .int .i64 i ∧ Own wr w.heap.size s L ∧ Up L ∧ (∀ c, c ∈ L ↔ c ∈ growN i l) ∧ Below w.heap.size w wr) (fun _ t _ => n - (intOf t).toNat)
  case atStart => exact ⟨0, l, Nat.zero_le _, rfl, hown1, hup, fun c => Iff.rfl, hB01⟩
  case round =>
    clear hown1 hB01 hl hn hup
    obtain ⟨i, L, hi, rfl, hown, hup, hmem, hB⟩ := hrel
    rename World => w2
    rcases Nat.lt_or_eq_of_le hi with hlt | rfl
    · have hi0 : (i : Int) < n := by omega
      have wi := wrapS (n := (i : Int) + 1) (by omega)
      have hS := hown.sl
      have hL := hbig i hi L (up_nodup hup) fun c hc => (hmem c).1 hc
      clear hown
      obtain ⟨A5, k5, rfl⟩ := hS.form
      go_wp2
      go_loopw [7, 8] (fun s t wr => ∃ k : Nat, k ≤ L.length ∧ t = .int .i64 k ∧ Own wr w2.heap.size s ((L.take k).flatMap fun c => c :: nearL c) ∧ Below w2.heap.size w2 wr) (fun _ t _ => L.length - (intOf t).toNat)
      case atStart => exact ⟨0, Nat.zero_le _, rfl, by simpa using Own.nil _ _, Below.refl _ _⟩
      case round =>
        obtain ⟨k, hk, rfl, hown7, hB2⟩ := hrel
        rename World => w3
        have hlen7 : ∀ M : List Cel, (M.flatMap fun c => c :: nearL c).length = M.length * 7 := fun M => by
          induction M with
          | nil => rfl
          | cons c M ih => rw [List.flatMap_cons, List.length_append, ih]; simp [nearL]; omega
        rcases Nat.lt_or_eq_of_le hk with hkn | rfl
        · have hk0 : (0 : Int) ≤ k := by omega
          have hk1 : (k : Int) < L.length := by omega
          have wk := wrapS (n := (k : Int) + 1) (by omega)
          obtain ⟨b, o, x, y, z, rfl, -, hb, hc, r0, r1, r2⟩ := hS.cells hkn
          have hnc := hng i _ ((hmem _).1 (List.mem_of_getElem? hc))
          have q := fun W => refNear_ok (x, y, z) (hnc.mono (by omega)) W
          unfold cellV at q
          dsimp only at q
          have hft : ((L.take (k + 1)).flatMap fun c => c :: nearL c) = ((L.take k).flatMap fun c => c :: nearL c) ++ [(x, y, z)] ++ nearL (x, y, z) := by
            rw [List.take_add_one, hc]
            simp [List.flatMap_append]
          have Hft := Lib.hid hft
          have hl7 : ((L.take k).flatMap fun c => c :: nearL c).length ≤ 30000 := by rw [hlen7, List.length_take]; omega
          have hsz := hB2.size
          have kS : ∀ W', Below w2.heap.size w2 W' → W'.cell? ⟨b, o + k * 3, none⟩ = some (.int .i64 x) ∧ W'.cell? ⟨b, o + k * 3 + 1, none⟩ = some (.int .i64 y) ∧ W'.cell? ⟨b, o + k * 3 + 2, none⟩ = some (.int .i64 z) := fun W' h => ⟨(h.cell (p := ⟨b, _, none⟩) hb).trans r0, (h.cell (p := ⟨b, _, none⟩) hb).trans r1, (h.cell (p := ⟨b, _, none⟩) hb).trans r2⟩
          have hX : Below w2.heap.size w2 w3.drew := hB2.trans (Below.refl _ _).drew
          have hS0 := kS _ hX
          have hown7' := (hown7.keep (Below.refl w3.heap.size w3).drew).alloc (.cells #[.int .i64 x, .int .i64 y, .int .i64 z] 24)
          have hXa := hX.alloc hX.size (.cells #[.int .i64 x, .int .i64 y, .int .i64 z] 24)
          have hSa := kS _ hXa
          clear hft hc r0 r1 r2 hnc hlen7
          go_wp2
          go_region_held3 (fun w' => w'.cell? ⟨b, o + k * 3, none⟩ = some (.int .i64 x) ∧ w'.cell? ⟨b, o + k * 3 + 1, none⟩ = some (.int .i64 y) ∧ w'.cell? ⟨b, o + k * 3 + 2, none⟩ = some (.int .i64 z)) (first | exact hS0 | exact hSa | exact hS1 | exact hS2 | exact hS3 | go_keep) (first
            | (go_at_call 90; refine (q _).mono ?_; rintro e w5 ⟨v9, rfl, hown9, hB5⟩; have hX5 := hX4.trans (hB5.mono hX4.size); have hS2 := kS _ hX5; have hown85 := hown8.keep hB5)
            | (refine step_append_sl rfl _ _ rfl w2.heap.size hXa.size _ _ rfl hown7' _ [(x, y, z)] rfl (.inr ⟨_, 1, rfl, row_one w3.drew x y z⟩) (by simp) (by simp at hl7 ⊢; omega) ?_; intro v8 w4 hown8 hB4; have hX4 := hXa.trans hB4; have hS1 := kS _ hX4)
            | (refine step_append_sl rfl _ _ rfl w2.heap.size hX5.size _ _ rfl hown85 _ (nearL (x, y, z)) rfl hown9.sl (by simp [nearL]) (by simp [nearL] at hl7 ⊢; omega) ?_; intro v10 w6 hown10 hB6; have hX6 := hX5.trans hB6; have hS3 := kS _ hX6))
          rename_i hHeld
          clear hHeld hS0 hSa hS1 hS2 hS3 kS q
          go_wp2
          exact ⟨⟨k + 1, hkn, rfl, by rw [Hft.out]; exact hown10, hX6⟩, by simp [intOf]; omega⟩
        · rw [List.take_length] at hown7
          have q := refSorted_ok _ _ w3 hown7.sl (by rw [hlen7]; omega)
          clear hS hlen7
          go_wp2_with fail
          refine q.mono ?_
          rintro e w4 ⟨v5', out, rfl, ho, hu, hm, hB4⟩
          have hmem' : ∀ c, c ∈ out ↔ c ∈ growN (i + 1) l := fun c => by
            rw [hm c, mem_step]
            refine Iff.trans ?_ mem_step.symm
            constructor
            · rintro (h | ⟨d, hd, h⟩)
              · exact .inl ((hmem c).1 h)
              · exact .inr ⟨d, (hmem d).1 hd, h⟩
            · rintro (h | ⟨d, hd, h⟩)
              · exact .inl ((hmem c).2 h)
              · exact .inr ⟨d, (hmem d).2 hd, h⟩
          have hlo := hbig (i + 1) hlt out (up_nodup hu) fun c hc => (hmem' c).1 hc
          have hlo' : ¬ (4096 : Int) < (out.length : Int) := by omega
          have hB24 := hB.trans ((hB2.trans (hB4.mono hB2.size)).mono hB.size)
          have hform := ho.sl.form
          clear q hm
          obtain ⟨A6, k6, rfl⟩ := hform
          go_wp2
          go_roundw
          case rel => exact ⟨i + 1, out, hlt, rfl, ho.lower (Nat.le_trans hB.size hB2.size), hu, hmem', hB24⟩
          case measure => simp [intOf]; omega
    · go_wp2
      go_ret
      exact ⟨_, L, rfl, hown, hup, hmem, hB⟩
end Go.Proofs
