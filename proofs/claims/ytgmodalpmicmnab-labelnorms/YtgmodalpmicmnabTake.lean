/- The walk of 'label.Take': the label at the beginning of bytes, or why there is none. -/
import Derived.Test.YtgmodalpmicmnabTags
namespace Go.Proofs.Ytgmodalpmicmnab
open Go.RowKit
set_option linter.unusedVariables false

/-- Why bytes are no label: 0 (they are one), 2 (they end too soon), 3 (too many tags, or such as do not rise). -/
def takeE : List Int → Int
  | [] => 2
  | m :: r => if 8 < m then 3 else if (r.length : Int) < 2 * m then 2 else if risesB (tagsL (r.take (2 * m.toNat))) then 0 else 3

def takeT (bs : List Int) : List Int := if takeE bs = 0 then tagsL (bs.tail.take (2 * (nth bs 0).toNat)) else []
def takeN (bs : List Int) : Int := if takeE bs = 0 then 1 + 2 * nth bs 0 else 0

theorem Rd.sub {k : IntKind} {w : World} {b o n c lo hi : Nat} {xs : List Int} (h : Rd k w (some ⟨b, o, none⟩) n c xs) (hl : lo ≤ hi) (hh : hi ≤ n) (ao : Option Addr) (m d : Nat) (hm : m = hi - lo) (hd : d = c - lo) (ha : 0 < m → ao = some ⟨b, o + lo, none⟩) (hn : ao ≠ none) :
    Rd k w ao m d ((xs.drop lo).take m) := by
  have h1 := h.len
  have h2 := h.cap
  have h3 := h.max
  refine ⟨by simp; omega, by omega, by omega, fun e => absurd e hn, fun hp => ⟨b, o + lo, ha hp, fun i hi' => ?_⟩⟩
  obtain ⟨b', o', e, hc⟩ := h.cells (by omega)
  cases e
  have := hc (lo + i) (by omega)
  rw [show o + lo + i = o + (lo + i) from by omega, this]
  simp only [nth]
  rw [List.getElem?_take_of_lt hi', List.getElem?_drop]

theorem tagsL_u16 {bs : List Int} (h : ∀ x ∈ bs, 0 ≤ x ∧ x ≤ 255) : ∀ t ∈ tagsL bs, 0 ≤ t ∧ t ≤ 65535 := by
  match bs, h with
  | [], _ => intro t ht; simp [tagsL] at ht
  | [_], _ => intro t ht; simp [tagsL] at ht
  | a :: b :: r, h =>
    intro t ht
    rw [tagsL, List.mem_cons] at ht
    rcases ht with rfl | ht
    · have h1 := h a (by simp)
      have h2 := h b (by simp)
      omega
    · exact tagsL_u16 (fun x hx => h x (by simp [hx])) t ht

set_option maxHeartbeats 1000000 in
theorem take_any (ao : Option Addr) (n c : Nat) (bs : List Int) (w : World) (h : Rd .u8 w ao n c bs) (hu : ∀ x ∈ bs, 0 ≤ x ∧ x ≤ 255) :
    Calls Try.prog 8 #[.slice ao n c] w fun e w' => ∃ oo p q, e = .returned (.tuple #[.slice oo p q, .int .i64 (takeN bs), .int .i64 (takeE bs)]) ∧ Rd .u16 w' oo p q (takeT bs) ∧ Below w.heap.size w w' := by
  have hlen := h.len
  have hcap := h.cap
  have hmax := h.max
  cases bs with
  | nil =>
    obtain rfl : n = 0 := by simpa using hlen.symm
    go_enter Try.func8, Try.ntmps8
    go_wp2
    go_ret3
    exact ⟨none, 0, 0, rfl, Rd.nil _ _, Below.refl _ _⟩
  | cons m r =>
    obtain ⟨q, rfl⟩ : ∃ q, n = q + 1 := ⟨r.length, by simpa using hlen.symm⟩
    have hlr : r.length = q := by simpa using hlen
    obtain ⟨b, o, rfl, hc⟩ := h.cells (by omega)
    have hc0 := hc 0 (by omega)
    rw [nth_zero, Nat.add_zero] at hc0
    have hm := hu m (by simp)
    clear hc
    by_cases h8 : 8 < m
    · have e1 : takeE (m :: r) = 3 := by rw [takeE, if_pos h8]
      have e2 : takeT (m :: r) = [] := by rw [takeT, e1]; rfl
      have e3 : takeN (m :: r) = 0 := by rw [takeN, e1]; rfl
      rw [e1, e2, e3]
      clear e1 e2 e3
      go_enter Try.func8, Try.ntmps8
      go_wp2
      go_ret3
      exact ⟨none, 0, 0, rfl, Rd.nil _ _, Below.refl _ _⟩
    · by_cases hs : (q : Int) < 2 * m
      · have e1 : takeE (m :: r) = 2 := by rw [takeE, if_neg h8, if_pos (by omega)]
        have e2 : takeT (m :: r) = [] := by rw [takeT, e1]; rfl
        have e3 : takeN (m :: r) = 0 := by rw [takeN, e1]; rfl
        rw [e1, e2, e3]
        clear e1 e2 e3
        go_enter Try.func8, Try.ntmps8
        go_wp2
        go_ret3
        exact ⟨none, 0, 0, rfl, Rd.nil _ _, Below.refl _ _⟩
      · obtain ⟨k, rfl⟩ : ∃ k : Nat, m = k := ⟨m.toNat, by omega⟩
        have e1 : takeE ((k : Int) :: r) = if risesB (tagsL (r.take (2 * k))) then 0 else 3 := by rw [takeE, if_neg h8, if_neg (by omega)]; rfl
        have hu' : ∀ x ∈ r.take (2 * k), 0 ≤ x ∧ x ≤ 255 := fun x hx => hu x (by simp [List.mem_of_mem_take hx])
        have hsub : ∀ (ao : Option Addr) (d : Nat), d = c - 1 → (0 < 2 * k → ao = some ⟨b, o + 1, none⟩) → ao ≠ none → Rd .u8 w ao (2 * k) d (r.take (2 * k)) :=
          fun ao d hd ha hn => by simpa using h.sub (lo := 1) (hi := 2 * k + 1) (by omega) (by omega) ao (2 * k) d (by omega) hd ha hn
        cases hr : risesB (tagsL (r.take (2 * k))) with
        | false =>
          have e1' : takeE ((k : Int) :: r) = 3 := by rw [e1, hr]; rfl
          have e2 : takeT ((k : Int) :: r) = [] := by rw [takeT, e1']; rfl
          have e3 : takeN ((k : Int) :: r) = 0 := by rw [takeN, e1']; rfl
          rw [e1', e2, e3]
          clear e1 e1' e2 e3
          go_enter Try.func8, Try.ntmps8
          go_wp2_with fail
          all_goals
            refine (tagsOf_any _ _ _ _ w (hsub _ _ (by omega) (fun _ => by first | rfl | omega) (Option.some_ne_none _)) (by omega) hu').mono ?_
            rintro e w1 ⟨oo, p, q', rfl, hrd, hb1⟩
            go_wp2_with fail
            refine (rises_any oo p q' _ w1 hrd).mono ?_
            rintro e w2 ⟨rfl, hb2⟩
            go_wp2
            go_ret3
            exact ⟨none, 0, 0, rfl, Rd.nil _ _, hb1.trans (hb2.mono hb1.size)⟩
        | true =>
          have e1' : takeE ((k : Int) :: r) = 0 := by rw [e1, hr]; rfl
          have e2 : takeT ((k : Int) :: r) = tagsL (r.take (2 * k)) := by rw [takeT, e1']; rfl
          have e3 : takeN ((k : Int) :: r) = 1 + 2 * (k : Int) := by rw [takeN, e1']; rfl
          rw [e1', e2, e3]
          clear e1 e1' e2 e3
          go_enter Try.func8, Try.ntmps8
          go_wp2_with fail
          all_goals
            refine (tagsOf_any _ _ _ _ w (hsub _ _ (by omega) (fun _ => by first | rfl | omega) (Option.some_ne_none _)) (by omega) hu').mono ?_
            rintro e w1 ⟨oo, p, q', rfl, hrd, hb1⟩
            go_wp2_with fail
            refine (rises_any oo p q' _ w1 hrd).mono ?_
            rintro e w2 ⟨rfl, hb2⟩
            go_wp2
            go_ret3
            exact ⟨oo, p, q', rfl, hrd.later hb2, hb1.trans (hb2.mono hb1.size)⟩

end Go.Proofs.Ytgmodalpmicmnab
