import Derived.Test.YtbmfehacnigknaaQmam
namespace Go.Proofs.Ytbmfehacnigknaa
open Go.RowKit
set_option linter.unusedVariables false
set_option linter.unusedSimpArgs false

/-- Is it the column of that name? -/
def itIs (tb nm : ByteArray) (c : It) : Bool := eqS c.2.2 nm && (eqS tb ⟨#[]⟩ || eqS tb c.2.1)
/-- Ahead of place i: none is it; or the one at k alone. -/
def AtI (C : List It) (tb nm : ByteArray) (i : Nat) (k : Int) : Prop := (k = -1 ∧ ∀ j (hj : j < C.length), j < i → itIs tb nm C[j] = false) ∨ ∃ q : Nat, k = q ∧ q < i ∧ (∃ hq : q < C.length, itIs tb nm C[q] = true) ∧ ∀ j (hj : j < C.length), j < i → j ≠ q → itIs tb nm C[j] = false
theorem AtI.miss {C : List It} {tb nm : ByteArray} {i : Nat} {k : Int} (h : AtI C tb nm i k) (hi : i < C.length) (hn : itIs tb nm C[i] = false) : AtI C tb nm (i + 1) k := by
  rcases h with ⟨rfl, h⟩ | ⟨q, rfl, hq, hx, h⟩
  · refine .inl ⟨rfl, fun j hj hji => ?_⟩
    by_cases e : j = i
    · subst e; exact hn
    · exact h j hj (by omega)
  · refine .inr ⟨q, rfl, by omega, hx, fun j hj hji hne => ?_⟩
    by_cases e : j = i
    · subst e; exact hn
    · exact h j hj (by omega) hne
theorem AtI.hit {C : List It} {tb nm : ByteArray} {i : Nat} {k : Int} (h : AtI C tb nm i k) (hk : k < 0) (hi : i < C.length) (hn : itIs tb nm C[i] = true) : AtI C tb nm (i + 1) i := by
  rcases h with ⟨rfl, h⟩ | ⟨q, rfl, hq, hx, h⟩
  · exact .inr ⟨i, rfl, by omega, ⟨hi, hn⟩, fun j hj hji hne => h j hj (by omega)⟩
  · omega
/-- What at tells. -/
def atR (C : List It) (n : Nat) (tb nm : ByteArray) (r e : Int) : Prop := ∀ K : List Int, K.length = n → (∃ q : Nat, ∃ hq : q < K.length, r = q ∧ e = 0 ∧ clmK (pairP C K) tb nm = (K[q], 0)) ∨ (r = -1 ∧ e = 10 ∧ clmK (pairP C K) tb nm = (0, 10))
theorem pairP_is {C : List It} {K : List Int} {tb nm : ByteArray} {j : Nat} (h1 : j < C.length) (h2 : j < K.length) (h : j < (pairP C K).length) : clmIs tb nm (pairP C K)[j] = itIs tb nm C[j] := by
  have e : (pairP C K)[j] = (C[j].2.1, C[j].2.2, K[j]) := by simp only [pairP, List.getElem_map, List.getElem_zip]
  rw [e]
  unfold clmIs itIs
  show (eqS C[j].2.2 nm && (eqS tb ⟨#[]⟩ || eqS C[j].2.1 tb)) = _
  rw [show eqS C[j].2.1 tb = eqS tb C[j].2.1 from by unfold eqS; rw [decide_eq_decide]; exact ⟨Eq.symm, Eq.symm⟩]
theorem filter_none {α : Type} {p : α → Bool} {l : List α} (h : ∀ j (hj : j < l.length), p l[j] = false) : l.filter p = [] := by
  rw [List.filter_eq_nil_iff]
  intro x hx
  obtain ⟨j, hj, rfl⟩ := List.mem_iff_getElem.1 hx
  rw [h j hj]
  simp
theorem filter_only {α : Type} {p : α → Bool} : ∀ {l : List α} {q : Nat} (hq : q < l.length), p l[q] = true → (∀ j (hj : j < l.length), j ≠ q → p l[j] = false) → l.filter p = [l[q]]
  | [], q, hq, _, _ => by simp at hq
  | x :: l, 0, hq, h1, h2 => by
    have hx : p x = true := h1
    rw [List.filter_cons_of_pos hx, filter_none fun j hj => h2 (j + 1) (by simpa using hj) (by omega)]
    rfl
  | x :: l, q + 1, hq, h1, h2 => by
    have hx : ¬ p x = true := by have := h2 0 (by simp) (by omega); simpa using this
    rw [List.filter_cons_of_neg hx]
    exact filter_only (l := l) (q := q) (by simpa using hq) (by simpa using h1) fun j hj hne => h2 (j + 1) (by simpa using hj) (by omega)
theorem filter_two {α : Type} {p : α → Bool} {l : List α} {q r : Nat} (hq : q < l.length) (hr : r < l.length) (hqr : q < r) (h1 : p l[q] = true) (h2 : p l[r] = true) : 2 ≤ (l.filter p).length := by
  have e : l = l.take r ++ l.drop r := (List.take_append_drop r l).symm
  have hd : l.drop r = l[r] :: l.drop (r + 1) := List.drop_eq_getElem_cons hr
  rw [e, List.filter_append, List.length_append, hd, List.filter_cons_of_pos h2, List.length_cons]
  have hm : l[q] ∈ (l.take r).filter p := by
    rw [List.mem_filter]
    refine ⟨?_, h1⟩
    rw [List.mem_take_iff_getElem]
    exact ⟨q, by omega, rfl⟩
  have := List.length_pos_of_mem hm
  omega
theorem atR_two {C : List It} {n : Nat} {tb nm : ByteArray} {i : Nat} {k : Int} (h : AtI C tb nm i k) (hk : 0 ≤ k) (hi : i < C.length) (hin : i < n) (hn : itIs tb nm C[i] = true) : atR C n tb nm (-1) 10 := by
  intro K hK
  refine .inr ⟨rfl, rfl, ?_⟩
  rcases h with ⟨rfl, h⟩ | ⟨q, rfl, hq, ⟨hqc, hx⟩, h⟩
  · omega
  · have l1 : q < (pairP C K).length := by rw [pairP_len]; omega
    have l2 : i < (pairP C K).length := by rw [pairP_len]; omega
    have := filter_two (p := clmIs tb nm) l1 l2 hq (by rw [pairP_is hqc (by omega)]; exact hx) (by rw [pairP_is hi (by omega)]; exact hn)
    rcases clm_one (pairP C K) tb nm with ⟨h1, _⟩ | ⟨_, h2⟩
    · omega
    · exact h2
theorem atR_none {C : List It} {n : Nat} {tb nm : ByteArray} {k : Int} (h : AtI C tb nm (min C.length n) k) (hk : k < 0) : atR C n tb nm (-1) 10 := by
  intro K hK
  refine .inr ⟨rfl, rfl, ?_⟩
  rcases h with ⟨rfl, h⟩ | ⟨q, rfl, _⟩
  · have : (pairP C K).filter (clmIs tb nm) = [] := filter_none fun j hj => by
      have hj2 := hj
      rw [pairP_len] at hj2
      rw [pairP_is (by omega) (by omega)]
      exact h j (by omega) (by omega)
    unfold clmK
    rw [this]
  · omega
theorem atR_one {C : List It} {n : Nat} {tb nm : ByteArray} {k : Int} (h : AtI C tb nm (min C.length n) k) (hk : 0 ≤ k) : atR C n tb nm k 0 := by
  intro K hK
  rcases h with ⟨rfl, h⟩ | ⟨q, rfl, hq, ⟨hqc, hx⟩, h⟩
  · omega
  · refine .inl ⟨q, by omega, rfl, rfl, ?_⟩
    have l1 : q < (pairP C K).length := by rw [pairP_len]; omega
    have : (pairP C K).filter (clmIs tb nm) = [(pairP C K)[q]] := filter_only l1 (by rw [pairP_is hqc (by omega)]; exact hx) fun j hj hne => by
      have hj2 := hj
      rw [pairP_len] at hj2
      rw [pairP_is (by omega) (by omega)]
      exact h j (by omega) (by omega) hne
    unfold clmK
    rw [this]
    show ((pairP C K)[q].2.2, 0) = _
    have e : (pairP C K)[q] = (C[q].2.1, C[q].2.2, K[q]) := by simp only [pairP, List.getElem_map, List.getElem_zip]
    rw [e]

set_option maxRecDepth 100000 in
set_option maxHeartbeats 4000000 in
theorem at_any {C : List It} (hC : C.length ≤ 500) (m : Nat) (hm : m ≤ 9223372036854775807) (x : Pg × Tg) {Q : Nat → Prop} {w : World} {a : Option Addr} {n c : Nat} (h : RowIs eItem Q w (.slice a n c) C) (ea : Option Addr) (en ec : Nat) :
    Calls Try.prog 28 #[.slice a n c, .int .i64 (m : Int), .agg #[.int .i64 x.1.1, .int .i64 x.1.2.1, .int .i64 x.1.2.2.1, .string x.1.2.2.2.1, .string x.1.2.2.2.2.1, .string x.1.2.2.2.2.2, .slice ea en ec]] w fun e w' => ∃ r er, e = .returned (.tuple #[.int .i64 r, .int .i64 er]) ∧ atR C m x.1.2.2.2.2.1 x.1.2.2.2.2.2 r er ∧ Below w.heap.size w w' := by
  obtain ⟨⟨op, k1, k2, k3, tb, nm⟩, f⟩ := x
  dsimp only
  have hw := bal (Below.refl w.heap.size w) (.cells #[.int .i64 op, .int .i64 k1, .int .i64 k2, .string k3, .string tb, .string nm, .slice ea en ec] 41)
  have bx := Bk.new w (.cells #[.int .i64 op, .int .i64 k1, .int .i64 k2, .string k3, .string tb, .string nm, .slice ea en ec] 41)
  generalize hW : w.alloc (.cells #[.int .i64 op, .int .i64 k1, .int .i64 k2, .string k3, .string tb, .string nm, .slice ea en ec] 41) = W at hw bx
  have d4 := bx.cell 4
  have d5 := bx.cell 5
  simp only [List.getElem?_toArray, List.getElem?_cons_zero, List.getElem?_cons_succ] at d4 d5
  obtain ⟨l1, l2, l3⟩ := h.lens
  have HR : Hid (∀ w', Below W.heap.size W w' → RowIs eItem Q w' (.slice a n c) C) := hid fun w' hb => h.keep (by decide) fun b _ hl => (Below.on hw hb).block b hl
  subst l1
  obtain ⟨r, hr⟩ : ∃ r, min C.length m = r := ⟨_, rfl⟩
  have hmi : min (C.length : Int) (m : Int) = (r : Int) := by omega
  have hrC : r ≤ C.length := by omega
  have HA2 : Hid (∀ i k, AtI C tb nm i k → 0 ≤ k → ∀ hi : i < C.length, i < r → itIs tb nm C[i] = true → atR C m tb nm (-1) 10) := hid fun i k h hk hi hir hn => atR_two h hk hi (by omega) hn
  have HA0 : Hid (∀ k, AtI C tb nm r k → k < 0 → atR C m tb nm (-1) 10) := hid fun k h hk => atR_none (hr ▸ h) hk
  have HA1 : Hid (∀ k, AtI C tb nm r k → 0 ≤ k → atR C m tb nm k 0) := hid fun k h hk => atR_one (hr ▸ h) hk
  replace hr : Hid _ := hid hr
  clear h bx
  go_enter Try.func28, Try.ntmps28
  go_upto_region 1 with fail
  go_wp2
  clear hW
  generalize w.heap.size = q at d4 d5 ⊢
  go_loopw [8, 9] (fun v8 v9 wr => ∃ (i : Nat) (k : Int), i ≤ r ∧ v9 = .int .i64 i ∧ v8 = .int .i64 k ∧ Hid (AtI C tb nm i k) ∧ -1 ≤ k ∧ k < 500 ∧ Below W.heap.size W wr) (fun _ i _ => r - (intOf i).toNat)
  case atStart => exact ⟨0, -1, Nat.zero_le _, rfl, rfl, hid (.inl ⟨rfl, fun j hj hji => absurd hji (by omega)⟩), by omega, by omega, Below.refl _ _⟩
  case round =>
    obtain ⟨i, k, hi, rfl, rfl, HI, hk1, hk2, hB⟩ := hrel
    have e4 := cell_later hB d4
    have e5 := cell_later hB d5
    by_cases hlt : i < r
    · have hic : i < C.length := by omega
      obtain ⟨_, _, _, e', _, _, _, hx⟩ := HR.out wr hB
      cases e'
      obtain ⟨b, o, rfl, -, hxi⟩ := hx (by omega)
      obtain ⟨cs, hE, -, hcc⟩ := hxi i hic
      have hE' : cs = [.int .i64 C[i].1, .string C[i].2.1, .string C[i].2.2] := hE
      subst hE'
      have c1 : wr.cell? ⟨b, o + i * 3 + 1, none⟩ = some (.string C[i].2.1) := hcc 1 (show 1 < 3 by decide)
      have c2 : wr.cell? ⟨b, o + i * 3 + 2, none⟩ = some (.string C[i].2.2) := hcc 2 (show 2 < 3 by decide)
      have hIs : itIs tb nm C[i] = (eqS C[i].2.2 nm && (eqS tb ⟨#[]⟩ || eqS tb C[i].2.1)) := rfl
      have HM : Hid (itIs tb nm C[i] = false → AtI C tb nm (i + 1) k) := hid fun hn => HI.out.miss hic hn
      have HH : Hid (k < 0 → itIs tb nm C[i] = true → AtI C tb nm (i + 1) i) := hid fun hk hn => HI.out.hit hk hic hn
      have HTw : Hid (0 ≤ k → itIs tb nm C[i] = true → atR C m tb nm (-1) 10) := hid fun hk hn => HA2.out i k HI.out hk hic hlt hn
      have n1 := same_str C[i].2.2 nm
      have n2 := empty_str tb
      have n3 := same_str tb C[i].2.1
      generalize itIs tb nm C[i] = B at *
      generalize C[i].2.1 = xt at *
      generalize C[i].2.2 = xn at *
      have him : (i : Int) < (r : Int) := by omega
      have hic' : (i : Int) < (C.length : Int) := by omega
      have hi5 : i < 500 := by omega
      clear hE hcc hxi hx
      by_cases hn1 : xn = nm
      · have e1 : (xn.toList == nm.toList) = true := by rw [n1]; simpa using hn1
        by_cases hn2 : tb = ⟨#[]⟩
        · have e2 : tb.toList.isEmpty = true := by rw [n2]; simpa using hn2
          obtain rfl : B = true := by rw [hIs]; unfold eqS; simp [hn1, hn2]
          by_cases hk : k < 0
          · have gk : ¬ (0 : Int) ≤ k := by omega
            have gd : decide ((0 : Int) ≤ k) = false := by simpa using gk
            clear n1 n2 n3 hIs
            clear hn1 hn2
            go_wp2
            go_quiet (fail)
            go_wp2
            go_roundw
            case rel => exact ⟨i + 1, i, by omega, by go_num, rfl, hid (HH.out hk (by first | rfl | trivial)), by omega, by omega, by first | exact hB | exact below_drewN hB _ | exact hB.drew⟩
            case measure => simp only [intOf]; omega
          · replace hk : (0 : Int) ≤ k := by omega
            clear n1 n2 n3 hIs
            clear hn1 hn2
            go_wp2
            go_quiet (fail)
            go_wp2
            exact bodyPost_ret (v := .tuple #[.int .i64 (-1), .int .i64 10]) (by simp [results, Try.results28]) rfl ⟨-1, 10, rfl, HTw.out hk (by first | rfl | trivial), by first | exact Below.on hw hB | exact Below.on hw (below_drewN hB _) | exact Below.on hw hB.drew⟩
        · have e2 : tb.toList.isEmpty = false := by rw [n2]; simpa using hn2
          by_cases hn3 : tb = xt
          · have e3 : (tb.toList == xt.toList) = true := by rw [n3]; simpa using hn3
            obtain rfl : B = true := by rw [hIs]; unfold eqS; simp [hn1, hn3]
            by_cases hk : k < 0
            · have gk : ¬ (0 : Int) ≤ k := by omega
              have gd : decide ((0 : Int) ≤ k) = false := by simpa using gk
              clear n1 n2 n3 hIs
              clear hn1 hn2 hn3
              go_wp2
              go_quiet (fail)
              go_wp2
              go_roundw
              case rel => exact ⟨i + 1, i, by omega, by go_num, rfl, hid (HH.out hk (by first | rfl | trivial)), by omega, by omega, by first | exact hB | exact below_drewN hB _ | exact hB.drew⟩
              case measure => simp only [intOf]; omega
            · replace hk : (0 : Int) ≤ k := by omega
              clear n1 n2 n3 hIs
              clear hn1 hn2 hn3
              go_wp2
              go_quiet (fail)
              go_wp2
              exact bodyPost_ret (v := .tuple #[.int .i64 (-1), .int .i64 10]) (by simp [results, Try.results28]) rfl ⟨-1, 10, rfl, HTw.out hk (by first | rfl | trivial), by first | exact Below.on hw hB | exact Below.on hw (below_drewN hB _) | exact Below.on hw hB.drew⟩
          · have e3 : (tb.toList == xt.toList) = false := by rw [n3]; simpa using hn3
            obtain rfl : B = false := by rw [hIs]; unfold eqS; simp [hn2, hn3]
            clear n1 n2 n3 hIs
            clear hn1 hn2 hn3
            go_wp2
            go_quiet (fail)
            go_wp2
            go_roundw
            case rel => exact ⟨i + 1, k, by omega, by go_num, rfl, hid (HM.out (by first | rfl | trivial)), hk1, hk2, by first | exact hB | exact below_drewN hB _ | exact hB.drew⟩
            case measure => simp only [intOf]; omega
      · have e1 : (xn.toList == nm.toList) = false := by rw [n1]; simpa using hn1
        obtain rfl : B = false := by rw [hIs]; unfold eqS; simp [hn1]
        clear n1 n2 n3 hIs
        clear hn1
        go_wp2
        go_quiet (fail)
        go_wp2
        go_roundw
        case rel => exact ⟨i + 1, k, by omega, by go_num, rfl, hid (HM.out (by first | rfl | trivial)), hk1, hk2, by first | exact hB | exact below_drewN hB _ | exact hB.drew⟩
        case measure => simp only [intOf]; omega
    · obtain rfl : i = r := by omega
      by_cases hk : k < 0
      · go_wp2
        exact bodyPost_ret (v := .tuple #[.int .i64 (-1), .int .i64 10]) (by simp [results, Try.results28]) rfl ⟨-1, 10, rfl, HA0.out k HI.out hk, Below.on hw hB⟩
      · have gk : ¬ k < 0 := hk
        have gd : decide (k < 0) = false := by simpa using gk
        go_wp2
        exact bodyPost_ret (v := .tuple #[.int .i64 k, .int .i64 0]) (by simp [results, Try.results28]) rfl ⟨k, 0, rfl, HA1.out k HI.out (by omega), Below.on hw hB⟩

end Go.Proofs.Ytbmfehacnigknaa
