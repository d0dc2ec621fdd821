/- What it means that a list has no error. -/
import Derived.Test.YtedjohdoenncbaaGreatDoorRefE
import Derived.Test.YtedjohdoenncbaaGreatDoorInsP
namespace Go.Proofs
open Go.RowKit
set_option maxHeartbeats 8000000
set_option maxRecDepth 1000000
theorem wrapL {n : Int} (h : -1000000000000000 ≤ n ∧ n ≤ 1000000000000000) : IntKind.i64.wrap n = n := by simp [IntKind.wrap, IntKind.bits, IntKind.signed]; omega
theorem chkFrom_zero : ∀ (l : List Cel) (p : Option Cel), chkFrom p l = 0 → (∀ c ∈ l, badC c = false) ∧ (∀ q, p = some q → ∀ c ∈ l, ltC q c = true) ∧ Up l
  | [], p, _ => ⟨fun c h => (nomatch h), fun q _ c h => (nomatch h), List.Pairwise.nil⟩
  | c :: l, p, h => by
    unfold chkFrom at h
    split at h
    · cases h
    · split at h
      · cases h
      · rename_i h1 h2
        obtain ⟨i1, i2, i3⟩ := chkFrom_zero l (some c) h
        have hb : badC c = false := by simpa using h1
        have hc := i2 c rfl
        refine ⟨fun x hx => ?_, fun q hq x hx => ?_, List.pairwise_cons.2 ⟨hc, i3⟩⟩
        · rcases List.mem_cons.1 hx with rfl | hx
          · exact hb
          · exact i1 x hx
        · subst hq
          have hqc : ltC q c = true := by
            cases e : ltC q c with
            | true => rfl
            | false => exact absurd (by rw [Option.any_some, e]; rfl) h2
          rcases List.mem_cons.1 hx with rfl | hx
          · exact hqc
          · exact ltC_tr hqc (hc x hx)
theorem chkFrom_of : ∀ (l : List Cel) (p : Option Cel), (∀ c ∈ l, badC c = false) → (∀ q, p = some q → ∀ c ∈ l, ltC q c = true) → Up l → chkFrom p l = 0
  | [], _, _, _, _ => rfl
  | c :: l, p, h1, h2, h3 => by
    obtain ⟨hc, h4⟩ := List.pairwise_cons.1 h3
    have hb := h1 c (List.mem_cons_self ..)
    unfold chkFrom
    rw [hb, if_neg (by simp)]
    have ha : p.any (fun q => !ltC q c) = false := by
      cases p with
      | none => rfl
      | some q => rw [Option.any_some, h2 q rfl c (List.mem_cons_self ..)]; rfl
    rw [ha, if_neg (by simp)]
    exact chkFrom_of l (some c) (fun x hx => h1 x (List.mem_cons_of_mem _ hx)) (fun q hq x hx => by obtain rfl := Option.some.inj hq; exact hc x hx) h4
theorem chk_up {l : List Cel} (h : chkI l = 0) : l.length ≤ 4096 ∧ True ∧ Up l := by
  unfold chkI at h
  split at h
  · cases h
  · exact ⟨by omega, trivial, (chkFrom_zero l none h).2.2⟩
end Go.Proofs
