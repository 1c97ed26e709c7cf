/- The walks of 'quarantineref1.Norm' and of the statement LabelMakes. -/
import Derived.Test.YtghifjiohgninaaS15
import Derived.Test.YtghifjiohgninaaBegun
import Derived.Test.YtghifjiohgninaaRef
namespace Go.Proofs.Ytghifjiohgninaa
open Go.RowKit
set_option linter.unusedVariables false

theorem refNorm_few (ao : Option Addr) (n c : Nat) (xs : List Int) (w : World) (h : Rd .u16 w ao n c xs) (hn : n ≤ 1000) (hf : (allL xs).length ≤ 8) :
    Calls Try.prog 20 #[.slice ao n c] w fun e w' => ∃ oo p q, e = .returned (.tuple #[.slice oo p q, .int .i64 0]) ∧ Rd .u16 w' oo p q (allL xs) ∧ Below w.heap.size w w' := by
  go_enter Try.func20, Try.ntmps20
  go_wp2_with fail
  refine Calls.mono (all_any ao n c xs w h hn) ?_
  rintro e w1 ⟨oo, p, q, rfl, hr, hb1⟩
  have hl := hr.len
  have g1 : decide ((8 : Int) < (p : Int)) = false := by simp; omega
  go_wp2
  go_ret2
  exact ⟨oo, p, q, rfl, hr, hb1⟩

theorem refNorm_many (ao : Option Addr) (n c : Nat) (xs : List Int) (w : World) (h : Rd .u16 w ao n c xs) (hn : n ≤ 1000) (hf : ¬ (allL xs).length ≤ 8) :
    Calls Try.prog 20 #[.slice ao n c] w fun e w' => e = .returned (.tuple #[.slice none 0 0, .int .i64 7]) ∧ Below w.heap.size w w' := by
  go_enter Try.func20, Try.ntmps20
  go_wp2_with fail
  refine Calls.mono (all_any ao n c xs w h hn) ?_
  rintro e w1 ⟨oo, p, q, rfl, hr, hb1⟩
  have hl := hr.len
  have g1 : decide ((8 : Int) < (p : Int)) = true := by simp; omega
  go_wp2
  go_ret2
  exact ⟨rfl, hb1⟩

/-- What a label is made of: its tags, rising, or none where they are too many; and what is told besides. -/
def nrm (xs : List Int) : List Int := if (allL xs).length ≤ 8 then allL xs else []
def nrmE (xs : List Int) : Int := if (allL xs).length ≤ 8 then 0 else 7

/-- The slice has its own row, from block B on, or nothing is in it. -/
def Mine (B : Nat) (w : World) (xo : Option Addr) (q : Nat) (ys : List Int) : Prop := ys = [] ∨ ∃ g, xo = some ⟨g, 0, none⟩ ∧ B ≤ g ∧ SW g q w w ys.toArray

theorem Mine.later {B : Nat} {w w' : World} {xo : Option Addr} {q : Nat} {ys : List Int} (h : Mine B w xo q ys) (hb : Below w.heap.size w w') : Mine B w' xo q ys := by
  rcases h with h | ⟨g, hx, hg, hS⟩
  · exact .inl h
  · obtain ⟨cur, hc, r⟩ := hS.row
    exact .inr ⟨g, hx, hg, ⟨rfl, rfl, rfl, Nat.le_refl _, fun _ _ _ => rfl, cur, (hb.block g hS.lt).trans hc, r⟩⟩

theorem mine_of_owns {B : Nat} {w : World} {v : Value} {ys : List Int} (h : w.ownsRow B 33 1 v ys.length (ys.map (Value.int .u16))) : ∃ xo q, v = .slice xo ys.length q ∧ Rd .u16 w xo ys.length q ys ∧ Mine B w xo q ys := by
  obtain ⟨xo, q, hv, hr⟩ := Rd.of_owns h
  refine ⟨xo, q, hv, hr, ?_⟩
  rcases h.2 with ⟨_, h0⟩ | ⟨g, cap, cur, hv2, hg, hcur, hnc, hcm, hcs, htk⟩
  · exact .inl (List.eq_nil_of_length_eq_zero h0)
  · rw [hv] at hv2
    injection hv2 with e1 e2 e3
    subst e1 e3
    exact .inr ⟨g, rfl, hg, SW.of_row hcur hcs rfl hnc htk⟩

theorem norm_made (ao : Option Addr) (n c : Nat) (xs ys : List Int) (k : Int) (HY : Hid (ys = nrm xs ∧ k = nrmE xs)) (w : World) (h : Rd .u16 w ao n c xs) (hn : n < 50) :
    Calls Try.prog 17 #[.slice ao n c] w fun e w' => ∃ xo q, e = .returned (.tuple #[.slice xo ys.length q, .int .i64 k]) ∧ Rd .u16 w' xo ys.length q ys ∧ Mine w.heap.size w' xo q ys ∧ Below w.heap.size w w' := by
  obtain ⟨rfl, rfl⟩ := HY.out
  by_cases hf : (allL xs).length ≤ 8
  · refine Calls.mono (norm_few ao n c xs w h hn hf) ?_
    rintro e w1 ⟨v, rfl, hown, hb⟩
    obtain ⟨xo, q, rfl, hr, hm⟩ := mine_of_owns hown
    rw [nrm, nrmE, if_pos hf, if_pos hf]
    exact ⟨xo, q, rfl, hr, hm, hb⟩
  · refine Calls.mono (norm_many ao n c xs w h hn hf) ?_
    rintro e w1 ⟨rfl, hb⟩
    rw [nrm, nrmE, if_neg hf, if_neg hf]
    exact ⟨none, 0, rfl, Rd.nil _ _, .inl rfl, hb⟩

theorem refNorm_made (ao : Option Addr) (n c : Nat) (xs ys : List Int) (k : Int) (HY : Hid (ys = nrm xs ∧ k = nrmE xs)) (w : World) (h : Rd .u16 w ao n c xs) (hn : n ≤ 1000) :
    Calls Try.prog 20 #[.slice ao n c] w fun e w' => ∃ oo p q, e = .returned (.tuple #[.slice oo p q, .int .i64 k]) ∧ Rd .u16 w' oo p q ys ∧ Below w.heap.size w w' := by
  obtain ⟨rfl, rfl⟩ := HY.out
  by_cases hf : (allL xs).length ≤ 8
  · refine Calls.mono (refNorm_few ao n c xs w h hn hf) ?_
    rintro e w1 ⟨oo, p, q, rfl, hr, hb⟩
    rw [nrm, nrmE, if_pos hf, if_pos hf]
    exact ⟨oo, p, q, rfl, hr, hb⟩
  · refine Calls.mono (refNorm_many ao n c xs w h hn hf) ?_
    rintro e w1 ⟨rfl, hb⟩
    rw [nrm, nrmE, if_neg hf, if_neg hf]
    exact ⟨none, 0, 0, rfl, Rd.nil _ _, hb⟩

end Go.Proofs.Ytghifjiohgninaa
