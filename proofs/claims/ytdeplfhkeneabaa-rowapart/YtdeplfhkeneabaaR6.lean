/- The walks of row's times, counted, whole and Take. -/
import Derived.Test.YtdeplfhkeneabaaR5
namespace Go.Proofs.Ytdeplfhkeneabaa
open Go.RowKit
set_option linter.unusedVariables false

/-- What the reader of a row tells, ahead of what stands behind it. -/
def coE (b : List Int) : Int := if cnE b = 0 then tkS (cnM b).toNat b.tail else cnE b
def coN (b : List Int) : Int := if coE b = 0 then 1 + (tkM (cnM b).toNat b.tail : Int) else 0
def coL (b : List Int) : List Vl := if coE b = 0 then tkL (cnM b).toNat b.tail else []

theorem times_any (m : Nat) (w : World) : Calls Try.prog 27 #[.int .i64 m, .func (.func 20) #[] #[]] w fun e w' => ∃ g1 g2, e = .returned (.func (.func 32) #[] #[.pointer (some ⟨g1, 0, none⟩), .pointer (some ⟨g2, 0, none⟩)]) ∧ w'.cell? ⟨g1, 0, none⟩ = some (.int .i64 m) ∧ w'.cell? ⟨g2, 0, none⟩ = some (.func (.func 20) #[] #[]) ∧ Below w.heap.size w w' := by
  have hmf : ∀ (fn : Fn) (first cap : Array Value) (w : World), (Instr.makeFunc fn first cap).run Try.prog w = .ok (.func fn first cap) w := fun _ _ _ _ => rfl
  go_enter Try.func27, Try.ntmps27
  go_wp2
  go_ret
  exact ⟨w.heap.size, w.heap.size + 1, rfl, by simp [go_sem], by simp [go_sem], ((Below.refl _ _).alloc (Nat.le_refl _) _).alloc (by simp) _⟩

theorem counted_any (w : World) : Calls Try.prog 18 #[.func (.func 19) #[] #[], .func (.func 20) #[] #[]] w fun e w' => ∃ g1 g2, e = .returned (.func (.func 26) #[] #[.pointer (some ⟨g1, 0, none⟩), .pointer (some ⟨g2, 0, none⟩)]) ∧ w'.cell? ⟨g1, 0, none⟩ = some (.func (.func 19) #[] #[]) ∧ w'.cell? ⟨g2, 0, none⟩ = some (.func (.func 20) #[] #[]) ∧ Below w.heap.size w w' := by
  have hmf : ∀ (fn : Fn) (first cap : Array Value) (w : World), (Instr.makeFunc fn first cap).run Try.prog w = .ok (.func fn first cap) w := fun _ _ _ _ => rfl
  go_enter Try.func18, Try.ntmps18
  go_wp2
  go_ret
  exact ⟨w.heap.size, w.heap.size + 1, rfl, by simp [go_sem], by simp [go_sem], ((Below.refl _ _).alloc (Nat.le_refl _) _).alloc (by simp) _⟩

set_option maxRecDepth 100000 in
set_option maxHeartbeats 1000000 in
theorem counted1_any (ao : Option Addr) (n c : Nat) (bs : List Int) (w : World) (h : Rd .u8 w ao n c bs) (hu : U8 bs) (g1 g2 : Nat) (hg1 : w.cell? ⟨g1, 0, none⟩ = some (.func (.func 19) #[] #[])) (hg2 : w.cell? ⟨g2, 0, none⟩ = some (.func (.func 20) #[] #[])) :
    Calls Try.prog 26 #[.slice ao n c, .pointer (some ⟨g1, 0, none⟩), .pointer (some ⟨g2, 0, none⟩)] w fun e w' => ∃ oo p q, e = .returned (.tuple #[.slice oo p q, .int .i64 (coN bs), .int .i64 (coE bs)]) ∧ RdV w' oo p q (coL bs) ∧ Below w.heap.size w w' := by
  have hlen := h.len
  have hcap := h.cap
  have hmax := h.max
  have HC : Hid _ := takeCount_any ao n c bs w h hu
  by_cases he : cnE bs = 0
  · obtain ⟨x, r, rfl, hx1, hx6⟩ : ∃ x r, bs = x :: r ∧ 1 ≤ x ∧ x ≤ 6 := by
      cases bs with
      | nil => simp [cnE] at he
      | cons x r =>
        rw [cnE] at he
        split at he
        · omega
        · exact ⟨x, r, rfl, by omega, by omega⟩
    obtain ⟨m, rfl⟩ : ∃ m : Nat, x = (m : Int) := ⟨x.toNat, by omega⟩
    have hno : ¬ ((m : Int) < 1 ∨ 6 < (m : Int)) := by omega
    have e1 : cnM ((m : Int) :: r) = m := by rw [cnM, if_neg hno]
    have e2 : cnN ((m : Int) :: r) = 1 := by rw [cnN, if_neg hno]
    have eE : coE ((m : Int) :: r) = tkS m r := by rw [coE, he, if_pos rfl, e1]; rfl
    have eN : coN ((m : Int) :: r) = if tkS m r = 0 then 1 + (tkM m r : Int) else 0 := by rw [coN, eE, e1]; rfl
    have eL : coL ((m : Int) :: r) = if tkS m r = 0 then tkL m r else [] := by rw [coL, eE, e1]; rfl
    rw [eE, eN, eL]
    rw [e1, e2, he] at HC
    rw [List.length_cons] at hlen
    have hur : U8 r := fun z hz => hu z (by simp [hz])
    obtain ⟨ao', p, d, hsl, hsr⟩ := slice_off (m := 1) h (by omega)
    rw [List.drop_succ_cons, List.drop_zero] at hsr
    have HT : Hid (∀ (w' : World) (a b : Nat), Below w.heap.size w w' → w'.cell? ⟨a, 0, none⟩ = some (.int .i64 m) → w'.cell? ⟨b, 0, none⟩ = some (.func (.func 20) #[] #[]) → _) := fun w' a b hb ha hb2 => times1_any ao' p d r w' (hsr w' (h.later hb)) hur m a b (by omega) ha hb2
    have HM : Hid (tkS m r = 0 → tkM m r ≤ r.length) := fun k => (read_all hur m k).2.2
    have hm6 : m ≤ 6 := by omega
    have hm1 : 1 ≤ m := by omega
    replace HM : Hid (tkS m r = 0 → (tkM m r : Int) ≤ 9223372036854775806) := fun k => by have := HM.out k; omega
    have HL : Hid (tmL m r = if tkS m r = 0 then tkL m r else []) := rfl
    have HN : Hid (tmN m r = if tkS m r = 0 then (tkM m r : Int) else 0) := rfl
    replace hsl : ∀ w', (Instr.slice 23 (.slice ao n c) (some (.int .i64 1)) none none).run Try.prog w' = .ok (.slice ao' p d) w' := hsl
    clear hno e1 e2 eE eN eL he hx1 hx6 hsr hu hur hlen h
    generalize tmL m r = L at *
    generalize tmN m r = N at *
    generalize tkS m r = ee at *
    generalize tkM m r = M at *
    generalize tkL m r = LL at *
    go_enter Try.func26, Try.ntmps26
    go_wp2_with fail
    refine Calls.mono HC.out ?_
    rintro e w1 ⟨rfl, rfl⟩
    clear HC
    go_upto_region 4 with fail
    go_cut [9, 10, 11] (fun v9 v10 v11 w' => ∃ oo p q, v10 = .slice oo p q ∧ v11 = .int .i64 N ∧ v9 = .int .i64 ee ∧ RdV w' oo p q L ∧ Below w1.heap.size w1 w')
    case first =>
      have hY : Below w1.heap.size w1 w1.drew := (Below.refl _ _).drew
      go_region_held (fun w' => w'.cell? ⟨g2, 0, none⟩ = some (.func (.func 20) #[] #[])) (first | exact cell_later hY hg2 | go_keep) (first
        | (go_at_call 27; refine Calls.mono (times_any m _) ?_; rintro e y ⟨a, b, rfl, ha, hb, hby⟩; replace hY := Below.on hY hby)
        | (go_at_call 32; refine Calls.mono (HT.out _ _ _ hY ha hb) ?_; rintro e y2 ⟨oo, pp, qq, rfl, hr2, hby2⟩; replace hY := Below.on hY hby2))
      all_goals
        go_wp2_with fail
        go_meet
        exact ⟨oo, pp, qq, rfl, rfl, rfl, hr2, hY⟩
    case rest =>
      obtain ⟨oo, pp, qq, rfl, rfl, rfl, hr, hB⟩ := hcut
      clear HT hsl
      by_cases hz : ee = 0
      · subst hz
        rw [if_pos rfl] at HL HN
        have hMb := HM.out rfl
        have hNe := HN.out
        subst hNe
        have hLe := HL.out
        subst hLe
        clear HL HN HM
        go_wp2
        refine bodyPost_ret (v := .tuple #[.slice oo pp qq, .int .i64 (1 + (M : Int)), .int .i64 0]) (by simp [results, Try.results26]) rfl ⟨oo, pp, qq, rfl, hr, hB⟩
      · have g0 : (ee == 0) = false := by simpa using hz
        clear HL HN HM hr
        go_wp2
        refine bodyPost_ret (v := .tuple #[.slice none 0 0, .int .i64 0, .int .i64 ee]) (by simp [results, Try.results26]) rfl ⟨none, 0, 0, rfl, RdV.nil _, hB⟩
  · have eE : coE bs = cnE bs := by rw [coE, if_neg he]
    have eN : coN bs = 0 := by rw [coN, eE, if_neg he]
    have eL : coL bs = [] := by rw [coL, eE, if_neg he]
    rw [eE, eN, eL]
    have g0 : (cnE bs == 0) = false := by simpa using he
    clear eE eN eL h hu
    generalize cnE bs = ee at *
    generalize cnM bs = mm at *
    generalize cnN bs = nn at *
    go_enter Try.func26, Try.ntmps26
    go_wp2_with fail
    refine Calls.mono HC.out ?_
    rintro e w1 ⟨rfl, rfl⟩
    clear HC
    go_wp2
    refine bodyPost_ret (v := .tuple #[.slice none 0 0, .int .i64 0, .int .i64 ee]) (by simp [results, Try.results26]) rfl ⟨none, 0, 0, rfl, RdV.nil _, Below.refl _ _⟩

theorem rowE_co (bs : List Int) : rowE bs = if coE bs = 0 then (if coN bs < bs.length then 3 else 0) else coE bs := by
  cases bs with
  | nil => rfl
  | cons c r =>
    rw [rowE]
    by_cases hc : c < 1 ∨ 6 < c
    · have e : coE (c :: r) = 3 := by rw [coE, cnE, if_pos hc, if_neg (by omega)]
      rw [if_pos hc, e, if_neg (by omega)]
    · have e0 : cnE (c :: r) = 0 := by rw [cnE, if_neg hc]
      have e1 : cnM (c :: r) = c := by rw [cnM, if_neg hc]
      have e : coE (c :: r) = tkS c.toNat r := by rw [coE, e0, if_pos rfl, e1]; rfl
      rw [if_neg hc, e]
      by_cases hs : tkS c.toNat r = 0
      · have en : coN (c :: r) = 1 + (tkM c.toNat r : Int) := by rw [coN, e, if_pos hs, e1]; rfl
        rw [if_pos hs, if_pos hs, en, List.length_cons]
        by_cases hk : tkM c.toNat r < r.length
        · rw [if_pos hk, if_pos (by omega)]
        · rw [if_neg hk, if_neg (by omega)]
      · rw [if_neg hs, if_neg hs]
theorem rowV_co (bs : List Int) : rowV bs = if rowE bs = 0 then coL bs else [] := by
  cases bs with
  | nil => rfl
  | cons c r =>
    rw [rowV]
    by_cases h : rowE (c :: r) = 0
    · rw [if_pos h, if_pos h]
      rw [rowE] at h
      by_cases hc : c < 1 ∨ 6 < c
      · rw [if_pos hc] at h; omega
      · rw [if_neg hc] at h
        have e0 : cnE (c :: r) = 0 := by rw [cnE, if_neg hc]
        have e1 : cnM (c :: r) = c := by rw [cnM, if_neg hc]
        have e : coE (c :: r) = tkS c.toNat r := by rw [coE, e0, if_pos rfl, e1]; rfl
        by_cases hs : tkS c.toNat r = 0
        · rw [coL, e, if_pos hs, e1]; rfl
        · rw [if_neg hs] at h; exact absurd h hs
    · rw [if_neg h, if_neg h]

set_option maxRecDepth 100000 in
theorem whole_any (ao : Option Addr) (n c : Nat) (bs : List Int) (w : World) (h : Rd .u8 w ao n c bs) (hu : U8 bs) (g1 g2 : Nat) (hg1 : w.cell? ⟨g1, 0, none⟩ = some (.func (.func 19) #[] #[])) (hg2 : w.cell? ⟨g2, 0, none⟩ = some (.func (.func 20) #[] #[])) :
    Calls Try.prog 17 #[.func (.func 26) #[] #[.pointer (some ⟨g1, 0, none⟩), .pointer (some ⟨g2, 0, none⟩)], .slice ao n c] w fun e w' => ∃ oo p q, e = .returned (.tuple #[.slice oo p q, .int .i64 (rowE bs)]) ∧ RdV w' oo p q (rowV bs) ∧ Below w.heap.size w w' := by
  have hlen := h.len
  have hcap := h.cap
  have hmax := h.max
  have HC : Hid _ := counted1_any ao n c bs w h hu g1 g2 hg1 hg2
  have HE : Hid (rowE bs = _) := rowE_co bs
  have HV : Hid (rowV bs = _) := rowV_co bs
  rw [hlen] at HE
  clear h hu hlen
  generalize coE bs = ee at *
  generalize coN bs = nn at *
  generalize coL bs = L at *
  generalize rowE bs = E at *
  generalize rowV bs = V at *
  by_cases hz : ee = 0
  · subst hz
    rw [if_pos rfl] at HE
    by_cases hn : nn < (n : Int)
    · rw [if_pos hn] at HE
      have e := HE.out
      subst e
      rw [if_neg (by omega)] at HV
      have e := HV.out
      subst e
      clear HE HV
      have g : decide (nn < (n : Int)) = true := by simpa using hn
      go_enter Try.func17, Try.ntmps17
      go_wp2_with fail
      refine Calls.mono HC.out ?_
      rintro e w1 ⟨oo, p, q, rfl, hr, hb⟩
      clear HC
      go_wp2
      refine bodyPost_ret (v := .tuple #[.slice none 0 0, .int .i64 3]) (by simp [results, Try.results17]) rfl ⟨none, 0, 0, rfl, RdV.nil _, hb⟩
    · rw [if_neg hn] at HE
      have e := HE.out
      subst e
      rw [if_pos rfl] at HV
      have e := HV.out
      subst e
      clear HE HV
      have g : decide (nn < (n : Int)) = false := by simpa using hn
      go_enter Try.func17, Try.ntmps17
      go_wp2_with fail
      refine Calls.mono HC.out ?_
      rintro e w1 ⟨oo, p, q, rfl, hr, hb⟩
      clear HC
      go_wp2
      refine bodyPost_ret (v := .tuple #[.slice oo p q, .int .i64 0]) (by simp [results, Try.results17]) rfl ⟨oo, p, q, rfl, hr, hb⟩
  · rw [if_neg hz] at HE
    have e := HE.out
    subst e
    rw [if_neg hz] at HV
    have e := HV.out
    subst e
    clear HE HV
    have g : (E == 0) = false := by simpa using hz
    go_enter Try.func17, Try.ntmps17
    go_wp2_with fail
    refine Calls.mono HC.out ?_
    rintro e w1 ⟨oo, p, q, rfl, hr, hb⟩
    clear HC
    go_wp2
    refine bodyPost_ret (v := .tuple #[.slice none 0 0, .int .i64 E]) (by simp [results, Try.results17]) rfl ⟨none, 0, 0, rfl, RdV.nil _, hb⟩

set_option maxRecDepth 100000 in
theorem takeRow_any (ao : Option Addr) (n c : Nat) (bs : List Int) (w : World) (h : Rd .u8 w ao n c bs) (hu : U8 bs) :
    Calls Try.prog 8 #[.slice ao n c] w fun e w' => ∃ oo p q, e = .returned (.tuple #[.slice oo p q, .int .i64 (rowE bs)]) ∧ RdV w' oo p q (rowV bs) ∧ Below w.heap.size w w' := by
  have HW : Hid (∀ w' g1 g2, Below w.heap.size w w' → w'.cell? ⟨g1, 0, none⟩ = some (.func (.func 19) #[] #[]) → w'.cell? ⟨g2, 0, none⟩ = some (.func (.func 20) #[] #[]) → _) := fun w' g1 g2 hb h1 h2 => whole_any ao n c bs w' (h.later hb) hu g1 g2 h1 h2
  clear h hu
  generalize rowE bs = E at *
  generalize rowV bs = V at *
  go_enter Try.func8, Try.ntmps8
  go_wp2_with fail
  refine Calls.mono (counted_any _) ?_
  rintro e w1 ⟨g1, g2, rfl, h1, h2, hb1⟩
  go_wp2_with fail
  refine Calls.mono (HW.out _ _ _ hb1 h1 h2) ?_
  rintro e w2 ⟨oo, p, q, rfl, hr, hb2⟩
  have hB := Below.on hb1 hb2
  clear HW
  go_wp2
  refine bodyPost_ret (v := .tuple #[.slice oo p q, .int .i64 E]) (by simp [results, Try.results8]) rfl ⟨oo, p, q, rfl, hr, hB⟩

end Go.Proofs.Ytdeplfhkeneabaa
