/- GridGrows: all ways together. -/
import Derived.Test.YtokhbkhoidpefaaGreatDoorGGroA
import Derived.Test.YtokhbkhoidpefaaGreatDoorGGroB
namespace Go.Proofs
open Go.RowKit
theorem fst_way2 (a b : Int) : fstI [a, b] ≠ 0 ∨ (a = 0 ∧ b = 0) := by
  rw [fst_or]
  unfold orI
  by_cases h1 : a = 0 <;> by_cases h2 : b = 0 <;> simp [h1, h2]
theorem fst_way3 (a b : Int) : fstI [a, b, 0] ≠ 0 ∨ (a = 0 ∧ b = 0) := by
  rw [fst_or3]
  unfold orI
  by_cases h1 : a = 0 <;> by_cases h2 : b = 0 <;> simp [h1, h2]
theorem ggrows_all (a b : List Cel) (va vb : Value) (n : Int) (w : World) (ha : St w va a) (hb : St w vb b) (kA : AwakeAt w) :
    Calls Tryz.prog 5 #[va, vb, .int .i64 n] w fun e w' => e = .returned (.bool true) ∧ Below w.heap.size w w' := by
  obtain ⟨ha1, A, ka, rfl, _, _⟩ := ha
  obtain ⟨hb1, B, kb, rfl, hkb, hkm⟩ := hb
  cases h1 : shortB a.length 40 with
  | false => exact ggrows_out_a _ _ A ka B kb n w kA h1
  | true =>
    cases h2 : shortB b.length 40 with
    | false => exact ggrows_out_b _ _ A ka B kb n w kA h1 h2
    | true =>
      rcases fst_way2 (chkI a) (withinI n 0 64) with hO | hO
      · by_cases la : a.length = 0
        · exact ggrows_bad_ea a b A ka B kb n w kA ha1 hb1 hkb hkm h1 h2 _ _ _ rfl rfl rfl hO la
        · by_cases lb : b.length = 0
          · exact ggrows_bad_eb a b A ka B kb n w kA ha1 hb1 hkb hkm h1 h2 _ _ _ rfl rfl rfl hO (by omega) lb
          · rcases fst_way3 (chkI a) (chkI b) with hT | hT
            · exact ggrows_bad_err a b A ka B kb n w kA ha1 hb1 hkb hkm h1 h2 _ _ _ rfl rfl rfl hO (by omega) (by omega) hT
            · exact ggrows_bad_ok a b A ka B kb n w kA ha1 hb1 hkb hkm h1 h2 _ _ _ rfl rfl rfl hO hT.1 hT.2 (by omega) (by omega)
      · by_cases h3 : n ≤ 3
        · by_cases la : a.length = 0
          · exact ggrows_good_ea a b A ka B kb n w kA ha1 hb1 hkb hkm h1 h2 _ _ _ rfl rfl rfl hO h3 la
          · by_cases lb : b.length = 0
            · exact ggrows_good_eb a b A ka B kb n w kA ha1 hb1 hkb hkm h1 h2 _ _ _ rfl rfl rfl hO h3 (by omega) lb
            · rcases fst_way3 (chkI a) (chkI b) with hT | hT
              · exact ggrows_good_err a b A ka B kb n w kA ha1 hb1 hkb hkm h1 h2 _ _ _ rfl rfl rfl hO h3 (by omega) (by omega) hT
              · exact ggrows_good_ok a b A ka B kb n w kA ha1 hb1 hkb hkm h1 h2 _ _ _ rfl rfl rfl hO h3 hT.1 hT.2 (by omega) (by omega)
        · exact ggrows_big a b A ka B kb n w kA ha1 hb1 hkb hkm h1 h2 _ _ _ rfl rfl rfl hO h3
end Go.Proofs
