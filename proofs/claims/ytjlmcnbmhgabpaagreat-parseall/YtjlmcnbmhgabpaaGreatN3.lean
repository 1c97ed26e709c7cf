/- The walks of num's digits, behind, parse. -/
import Derived.Test.YtjlmcnbmhgabpaaGreatN1
namespace Go.Proofs.YtjlmcnbmhgabpaaGreat
open Go.RowKit
set_option linter.unusedVariables false

/-- Is a byte a digit? -/
def isDig (x : UInt8) : Bool := decide (48 ≤ x.toNat) && decide (x.toNat ≤ 57)
/-- The number that digits say. -/
def val (l : List UInt8) : Nat := l.foldl (fun n x => n * 10 + (x.toNat - 48)) 0
/-- The text's bytes. -/
def bs (s : ByteArray) : List UInt8 := s.data.toList
/-- What a text is told as: a number, one that runs over, or none. -/
def isNum (l : List UInt8) : Bool := decide (0 < l.length) && l.all isDig
def pA (l : List UInt8) : Value := if isNum l then nA (val l) else .tuple #[.int .i64 0, .int .i64 3]

theorem bs_length (s : ByteArray) : (bs s).length = s.size := Array.length_toList
theorem bs_at (s : ByteArray) (k : Nat) (h : k < s.size) : (bs s)[k]? = some s[k] := by
  have h' : k < (bs s).length := by rw [bs_length]; exact h
  rw [List.getElem?_eq_getElem h']
  rfl
theorem take_snoc {l : List UInt8} {k : Nat} {x : UInt8} (h : l[k]? = some x) : l.take (k + 1) = l.take k ++ [x] := by
  rw [List.take_add_one, h]; rfl
theorem all_take {l : List UInt8} {k : Nat} {x : UInt8} (h : l[k]? = some x) (hp : (l.take k).all isDig = true) (hx : isDig x = true) : (l.take (k + 1)).all isDig = true := by
  rw [take_snoc h, List.all_append, hp]; simp [hx]
theorem all_not {l : List UInt8} {k : Nat} {x : UInt8} (h : l[k]? = some x) (hx : isDig x = false) : l.all isDig = false := by
  cases e : l.all isDig with
  | false => rfl
  | true =>
    have := List.all_eq_true.1 e x (List.mem_of_getElem? h)
    rw [hx] at this; cases this
theorem val_snoc (l : List UInt8) (x : UInt8) : val (l ++ [x]) = val l * 10 + (x.toNat - 48) := by simp [val, List.foldl_append]
theorem val_take {l : List UInt8} {k : Nat} {x : UInt8} (h : l[k]? = some x) : val (l.take (k + 1)) = val (l.take k) * 10 + (x.toNat - 48) := by rw [take_snoc h, val_snoc]
theorem val_grows (l m : List UInt8) : val l ≤ val (l ++ m) := by
  induction m generalizing l with
  | nil => simp
  | cons x m ih =>
    have := ih (l ++ [x])
    rw [List.append_assoc, List.singleton_append, val_snoc] at this
    omega
theorem val_take_le (l : List UInt8) (k : Nat) : val (l.take k) ≤ val l := by
  have := val_grows (l.take k) (l.drop k)
  rwa [List.take_append_drop] at this


set_option maxRecDepth 100000 in
theorem digits_any (s : ByteArray) (hs : s.size ≤ 9223372036854775807) (w : World) : Calls Tryz.prog 134 #[.string s] w fun e w' => e = .returned (.bool (isNum (bs s))) ∧ w' = w := by
  go_enter Tryz.func134, Tryz.ntmps134
  go_wp2
  go_loopw [6] (fun i wr => ∃ k : Nat, k ≤ s.size ∧ i = .int .i64 k ∧ ((bs s).take k).all isDig = true ∧ wr = w) (fun i _ => s.size - (intOf i).toNat)
  case atStart => exact ⟨0, by omega, rfl, by simp, rfl⟩
  case round =>
    obtain ⟨k, hk, rfl, hd, rfl⟩ := hrel
    have HD : Hid _ := hd
    clear hd
    by_cases hlt : k < s.size
    · have hat : Hid _ := bs_at s k hlt
      cases hx : isDig s[k] with
      | true =>
        have f := hx
        rw [isDig, Bool.and_eq_true, decide_eq_true_iff, decide_eq_true_iff] at f
        have f1 : decide (((s[k]).toNat : Int) < 48) = false := by simp; omega
        have f2 : decide (57 < ((s[k]).toNat : Int)) = false := by simp; omega
        replace hx : Hid _ := hx
        clear f
        go_wp2
        go_roundw
        case rel => exact ⟨k + 1, by omega, by go_num, all_take hat.out HD.out hx.out, trivial⟩
        case measure => simp only [intOf]; omega
      | false =>
        have hn : isNum (bs s) = false := by rw [isNum, all_not hat.out hx, Bool.and_false]
        rw [isDig, Bool.and_eq_false_iff, decide_eq_false_iff_not, decide_eq_false_iff_not] at hx
        replace hn : Hid _ := hn
        clear hat
        by_cases hlo : ((s[k]).toNat : Int) < 48
        · have f1 : decide (((s[k]).toNat : Int) < 48) = true := by simpa using hlo
          clear hx
          go_wp2
          go_ret
          exact ⟨ret_bool hn.out.symm, rfl⟩
        · have f1 : decide (((s[k]).toNat : Int) < 48) = false := by simpa using hlo
          have f2 : decide (57 < ((s[k]).toNat : Int)) = true := by simp; omega
          clear hx
          go_wp2
          go_ret
          exact ⟨ret_bool hn.out.symm, rfl⟩
    · have hn : isNum (bs s) = decide (0 < s.size) := by
        have := HD.out
        rw [List.take_of_length_le (by rw [bs_length]; omega)] at this
        rw [isNum, this, Bool.and_true, bs_length]
      replace hn : Hid _ := hn
      go_wp2
      go_ret
      exact ⟨ret_bool (show (!s.toList.isEmpty) = _ by rw [hn.out, ByteArray.toList_eq, ← bs_length]; cases e : s.data.toList <;> simp [bs, e]), rfl⟩

set_option maxRecDepth 100000 in
theorem behind_any (n d : Int) (hn : 0 ≤ n) (hf : Fits n) (hd : 0 ≤ d ∧ d ≤ 9) (w : World) : Calls Tryz.prog 135 #[.int .i64 n, .int .i64 d] w fun e w' => e = .returned (nA (n * 10 + d)) ∧ w' = w := by
  have HM : Hid _ := mul_any n 10 hf (by decide) w
  by_cases h : Fits (n * 10)
  · have HA : Hid _ := add_any (n * 10) d h (by unfold Fits; omega) w
    rw [nA_in h] at HM
    clear hf hn hd h
    go_enter Tryz.func135, Tryz.ntmps135
    go_wp2_with fail
    refine Calls.mono HM.out ?_
    rintro e w' ⟨rfl, rfl⟩
    go_wp2_with fail
    refine Calls.mono HA.out ?_
    rintro e w' ⟨rfl, rfl⟩
    unfold nA
    go_wp2
    go_ret2
    exact ⟨rfl, rfl⟩
  · have h2 : ¬ Fits (n * 10 + d) := by unfold Fits at *; omega
    rw [nA_out h] at HM
    rw [nA_out h2]
    clear hf hn hd h h2
    go_enter Tryz.func135, Tryz.ntmps135
    go_wp2_with fail
    refine Calls.mono HM.out ?_
    rintro e w' ⟨rfl, rfl⟩
    go_wp2
    go_ret2
    exact ⟨rfl, rfl⟩

theorem not_fits_up {l : List UInt8} {k : Nat} (h : ¬ Fits (val (l.take k))) : ¬ Fits (val l) := by
  have := val_take_le l k
  unfold Fits at *
  omega

set_option maxRecDepth 100000 in
theorem parse_any (s : ByteArray) (hs : s.size ≤ 9223372036854775807) (w : World) : Calls Tryz.prog 125 #[.string s] w fun e w' => e = .returned (pA (bs s)) ∧ w' = w := by
  have HD : Hid _ := digits_any s hs w
  cases hb : isNum (bs s) with
  | false =>
    rw [hb] at HD
    rw [show pA (bs s) = .tuple #[.int .i64 0, .int .i64 3] from by rw [pA, hb]; rfl]
    clear hb
    go_enter Tryz.func125, Tryz.ntmps125
    go_wp2_with fail
    refine Calls.mono HD.out ?_
    rintro e w' ⟨rfl, rfl⟩
    go_wp2
    go_ret2
    exact ⟨rfl, rfl⟩
  | true =>
    rw [hb] at HD
    rw [show pA (bs s) = nA (val (bs s)) from by rw [pA, hb]; rfl]
    have hall : ∀ (k : Nat) (x : UInt8), (bs s)[k]? = some x → 48 ≤ x.toNat ∧ x.toNat ≤ 57 := by
      rw [isNum, Bool.and_eq_true] at hb
      intro k x hx
      have := List.all_eq_true.1 hb.2 x (List.mem_of_getElem? hx)
      simpa [isDig] using this
    replace hall : Hid _ := hall
    clear hb
    go_enter Tryz.func125, Tryz.ntmps125
    go_wp2_with fail
    refine Calls.mono HD.out ?_
    rintro e w' ⟨rfl, rfl⟩
    clear HD
    go_wp2
    go_loopw [4, 5, 6] (fun v f i wr => ∃ k : Nat, k ≤ s.size ∧ i = .int .i64 k ∧ v = .int .i64 (nV (val ((bs s).take k))) ∧ f = .int .i64 (nE (val ((bs s).take k))) ∧ wr = w') (fun _ _ i _ => s.size - (intOf i).toNat)
    case atStart => exact ⟨0, by omega, rfl, rfl, rfl, rfl⟩
    case round =>
      obtain ⟨k, hk, rfl, rfl, rfl, rfl⟩ := hrel
      by_cases hf : Fits (val ((bs s).take k))
      · rw [show nE (val ((bs s).take k)) = 0 from by simp [nE, hf], show nV (val ((bs s).take k)) = val ((bs s).take k) from by simp [nV, hf]]
        by_cases hlt : k < s.size
        · have hat := bs_at s k hlt
          obtain ⟨d1, d2⟩ := hall.out k _ hat
          have hv : Hid _ := val_take hat
          clear hat
          generalize hz : val ((bs s).take k) = z at *
          have HB : Hid _ := behind_any (z : Int) ((s[k].toNat : Int) - 48) (by omega) hf (by omega) wr
          clear hf
          have hn : ((z * 10 + (s[k].toNat - 48) : Nat) : Int) = (z : Int) * 10 + ((s[k].toNat : Int) - 48) := by omega
          replace hn : Hid _ := hn
          replace hz : Hid _ := hz
          go_wp2_with fail
          refine Calls.mono HB.out ?_
          rintro e w1 ⟨rfl, rfl⟩
          rw [← hn.out, ← hv.out]
          clear HB hn
          unfold nA
          generalize hq : val ((bs s).take (k + 1)) = q
          replace hq : Hid _ := hq
          go_wp2
          go_roundw
          case rel => exact ⟨k + 1, by omega, by go_num, by rw [hq.out], by rw [hq.out], trivial⟩
          case measure => simp only [intOf]; omega
        · have hv : val ((bs s).take k) = val (bs s) := by rw [List.take_of_length_le (by rw [bs_length]; omega)]
          rw [hv] at hf ⊢
          have hend := nA_in hf
          replace hend : Hid _ := hend
          clear hv hf
          go_wp2
          go_ret2
          exact ⟨by rw [hend.out]; rfl, rfl⟩
      · rw [show nE (val ((bs s).take k)) = 8 from by simp [nE, hf], show nV (val ((bs s).take k)) = 0 from by simp [nV, hf]]
        have hend : Hid _ := nA_out (not_fits_up hf)
        clear hf
        go_wp2
        all_goals go_ret2
        all_goals exact ⟨by rw [hend.out]; rfl, rfl⟩

set_option maxRecDepth 100000 in
theorem Parse_any (s : ByteArray) (hs : s.size ≤ 9223372036854775807) (w : World) : Calls Tryz.prog 109 #[.string s] w fun e w' => e = .returned (pA (bs s)) ∧ w' = w := by
  have H : Hid _ := parse_any s hs w
  have hp : ∃ x y : Int, pA (bs s) = .tuple #[.int .i64 x, .int .i64 y] := by
    unfold pA
    split
    · exact ⟨_, _, rfl⟩
    · exact ⟨_, _, rfl⟩
  obtain ⟨x, y, hp⟩ := hp
  rw [hp] at H ⊢
  clear hp
  go_enter Tryz.func109, Tryz.ntmps109
  go_wp2_with fail
  refine Calls.mono H.out ?_
  rintro e w' ⟨rfl, rfl⟩
  go_wp2
  go_ret2
  exact ⟨rfl, rfl⟩
end Go.Proofs.YtjlmcnbmhgabpaaGreat
