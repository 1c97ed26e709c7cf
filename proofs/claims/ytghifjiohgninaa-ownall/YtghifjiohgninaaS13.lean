/- The library's sort at fewer than 50 tags: the row holds the same tags, rising. -/
import Derived.Test.YtghifjiohgninaaS12
namespace Go.Proofs.Ytghifjiohgninaa
open Go.RowKit
open Go.Sort (swp PermIn SortedIn ltInt)
set_option linter.unusedVariables false

theorem pdq_all (g cap n : Nat) (w0 : World) (hn2 : n < 50) : ∀ (N a b lim : Nat) (d : Array Int) (w : World), b - a < N → SW g cap w0 w d → a ≤ b → b ≤ d.size → d.size = n → lim ≤ 1000 → BelowI a b d → PdqOk g cap n a b lim d w0 w
  | 0, _, _, _, _, _, hN, _, _, _, _, _, _ => absurd hN (Nat.not_lt_zero _)
  | N + 1, a, b, lim, d, w, hN, h, hab, hbn, hn, hlim, hbe =>
    pdq_step g cap n a b lim d w0 w h hab hbn hn hn2 hlim hbe fun a' b' lim' d' w' h' hab' hbn' hn' hlim' hbe' hlt => pdq_all g cap n w0 hn2 N a' b' lim' d' w' (by omega) h' hab' hbn' hn' hlim' hbe'

theorem sort_many (g cap n : Nat) (d : Array Int) (w0 w : World) (h : SW g cap w0 w d) (hn : d.size = n) (hn2 : n < 50) :
    Calls Try.prog 28 #[.slice (some ⟨g, 0, none⟩) n cap] w fun e w' => e = .returned (.tuple #[]) ∧ ∃ d' : Array Int, d'.size = n ∧ (∀ z, z ∈ d'.toList ↔ z ∈ d.toList) ∧ SortedIn ltInt 0 n d' ∧ SW g cap w0 w' d' := by
  have hu : (n : Int) % 18446744073709551616 = (n : Int) := by omega
  have hbl : Lib.bitLen n ≤ 8 := Lib.bitLen_le8 ⟨n, by omega⟩
  go_enter Try.func28, Try.ntmps28
  go_wp2_with (go_at_call 31; refine (len_any n (by omega) _).mono ?_; rintro e w' ⟨rfl, rfl⟩)
  refine Calls.mono (pdq_all g cap n w0 hn2 (n + 1) 0 n (Lib.bitLen n) d _ (by omega) h (Nat.zero_le _) (by omega) hn (by omega) (fun i h1 h2 h3 => absurd h3 (Nat.lt_irrefl _))) ?_
  rintro e w1 ⟨rfl, d', hp, hso, hS⟩
  go_wp2_with fail
  go_end0
  subst hn
  refine ⟨rfl, d', hp.1, fun z => ?_, hso, hS⟩
  have hq := hp.2.2
  rw [show d'.extract 0 d.size = d' from by rw [← hp.1]; simp, show d.extract 0 d.size = d from by simp] at hq
  exact hq.mem_iff

end Go.Proofs.Ytghifjiohgninaa
