import Derived.Test.YtnlaaejdianfjaaGreatQwal
import Derived.RangeFuncNested
import Derived.RangeFuncLeaves
import Derived.WalkKit
namespace Go.Proofs.YtnlaaejdianfjaaGreat
open Go.RowKit
set_option linter.unusedVariables false
set_option linter.unusedSimpArgs false

/-- Is it the column of that name? -/
def itIs (tb nm : ByteArray) (c : It) : Bool := eqS c.2.2 nm && (eqS tb ⟨#[]⟩ || eqS tb c.2.1)
/-- Ahead of place i: none is it; or the one at k alone. -/
def AtI (C : List It) (tb nm : ByteArray) (i : Nat) (k : Int) : Prop := (k = -1 ∧ ∀ j (hj : j < C.length), j < i → itIs tb nm C[j] = false) ∨ ∃ q : Nat, k = q ∧ q < i ∧ (∃ hq : q < C.length, itIs tb nm C[q] = true) ∧ ∀ j (hj : j < C.length), j < i → j ≠ q → itIs tb nm C[j] = false
theorem AtI.miss {C : List It} {tb nm : ByteArray} {i : Nat} {k : Int} (h : AtI C tb nm i k) (hi : i < C.length) (hn : itIs tb nm C[i] = false) : AtI C tb nm (i + 1) k := by
  rcases h with ⟨rfl, h⟩ | ⟨q, rfl, hq, hx, h⟩
  · refine .inl ⟨rfl, fun j hj hji => ?_⟩
    by_cases e : j = i
    · subst e; exact hn
    · exact h j hj (by omega)
  · refine .inr ⟨q, rfl, by omega, hx, fun j hj hji hne => ?_⟩
    by_cases e : j = i
    · subst e; exact hn
    · exact h j hj (by omega) hne
theorem AtI.hit {C : List It} {tb nm : ByteArray} {i : Nat} {k : Int} (h : AtI C tb nm i k) (hk : k < 0) (hi : i < C.length) (hn : itIs tb nm C[i] = true) : AtI C tb nm (i + 1) i := by
  rcases h with ⟨rfl, h⟩ | ⟨q, rfl, hq, hx, h⟩
  · exact .inr ⟨i, rfl, by omega, ⟨hi, hn⟩, fun j hj hji hne => h j hj (by omega)⟩
  · omega
/-- What at tells. -/
def atR (C : List It) (n : Nat) (tb nm : ByteArray) (r e : Int) : Prop := ∀ K : List Int, K.length = n → (∃ q : Nat, ∃ hq : q < K.length, r = q ∧ e = 0 ∧ clmK (pairP C K) tb nm = (K[q], 0)) ∨ (r = -1 ∧ e = 10 ∧ clmK (pairP C K) tb nm = (0, 10))
theorem pairP_is {C : List It} {K : List Int} {tb nm : ByteArray} {j : Nat} (h1 : j < C.length) (h2 : j < K.length) (h : j < (pairP C K).length) : clmIs tb nm (pairP C K)[j] = itIs tb nm C[j] := by
  have e : (pairP C K)[j] = (C[j].2.1, C[j].2.2, K[j]) := by simp only [pairP, List.getElem_map, List.getElem_zip]
  rw [e]
  unfold clmIs itIs
  show (eqS C[j].2.2 nm && (eqS tb ⟨#[]⟩ || eqS C[j].2.1 tb)) = _
  rw [show eqS C[j].2.1 tb = eqS tb C[j].2.1 from by unfold eqS; rw [decide_eq_decide]; exact ⟨Eq.symm, Eq.symm⟩]
theorem filter_none {α : Type} {p : α → Bool} {l : List α} (h : ∀ j (hj : j < l.length), p l[j] = false) : l.filter p = [] := by
  rw [List.filter_eq_nil_iff]
  intro x hx
  obtain ⟨j, hj, rfl⟩ := List.mem_iff_getElem.1 hx
  rw [h j hj]
  simp
theorem filter_only {α : Type} {p : α → Bool} : ∀ {l : List α} {q : Nat} (hq : q < l.length), p l[q] = true → (∀ j (hj : j < l.length), j ≠ q → p l[j] = false) → l.filter p = [l[q]]
  | [], q, hq, _, _ => by simp at hq
  | x :: l, 0, hq, h1, h2 => by
    have hx : p x = true := h1
    rw [List.filter_cons_of_pos hx, filter_none fun j hj => h2 (j + 1) (by simpa using hj) (by omega)]
    rfl
  | x :: l, q + 1, hq, h1, h2 => by
    have hx : ¬ p x = true := by have := h2 0 (by simp) (by omega); simpa using this
    rw [List.filter_cons_of_neg hx]
    exact filter_only (l := l) (q := q) (by simpa using hq) (by simpa using h1) fun j hj hne => h2 (j + 1) (by simpa using hj) (by omega)
theorem filter_two {α : Type} {p : α → Bool} {l : List α} {q r : Nat} (hq : q < l.length) (hr : r < l.length) (hqr : q < r) (h1 : p l[q] = true) (h2 : p l[r] = true) : 2 ≤ (l.filter p).length := by
  have e : l = l.take r ++ l.drop r := (List.take_append_drop r l).symm
  have hd : l.drop r = l[r] :: l.drop (r + 1) := List.drop_eq_getElem_cons hr
  rw [e, List.filter_append, List.length_append, hd, List.filter_cons_of_pos h2, List.length_cons]
  have hm : l[q] ∈ (l.take r).filter p := by
    rw [List.mem_filter]
    refine ⟨?_, h1⟩
    rw [List.mem_take_iff_getElem]
    exact ⟨q, by omega, rfl⟩
  have := List.length_pos_of_mem hm
  omega
theorem atR_two {C : List It} {n : Nat} {tb nm : ByteArray} {i : Nat} {k : Int} (h : AtI C tb nm i k) (hk : 0 ≤ k) (hi : i < C.length) (hin : i < n) (hn : itIs tb nm C[i] = true) : atR C n tb nm (-1) 10 := by
  intro K hK
  refine .inr ⟨rfl, rfl, ?_⟩
  rcases h with ⟨rfl, h⟩ | ⟨q, rfl, hq, ⟨hqc, hx⟩, h⟩
  · omega
  · have l1 : q < (pairP C K).length := by rw [pairP_len]; omega
    have l2 : i < (pairP C K).length := by rw [pairP_len]; omega
    have := filter_two (p := clmIs tb nm) l1 l2 hq (by rw [pairP_is hqc (by omega)]; exact hx) (by rw [pairP_is hi (by omega)]; exact hn)
    rcases clm_one (pairP C K) tb nm with ⟨h1, _⟩ | ⟨_, h2⟩
    · omega
    · exact h2
theorem atR_none {C : List It} {n : Nat} {tb nm : ByteArray} {k : Int} (h : AtI C tb nm (min C.length n) k) (hk : k < 0) : atR C n tb nm (-1) 10 := by
  intro K hK
  refine .inr ⟨rfl, rfl, ?_⟩
  rcases h with ⟨rfl, h⟩ | ⟨q, rfl, _⟩
  · have : (pairP C K).filter (clmIs tb nm) = [] := filter_none fun j hj => by
      have hj2 := hj
      rw [pairP_len] at hj2
      rw [pairP_is (by omega) (by omega)]
      exact h j (by omega) (by omega)
    unfold clmK
    rw [this]
  · omega
theorem atR_one {C : List It} {n : Nat} {tb nm : ByteArray} {k : Int} (h : AtI C tb nm (min C.length n) k) (hk : 0 ≤ k) : atR C n tb nm k 0 := by
  intro K hK
  rcases h with ⟨rfl, h⟩ | ⟨q, rfl, hq, ⟨hqc, hx⟩, h⟩
  · omega
  · refine .inl ⟨q, by omega, rfl, rfl, ?_⟩
    have l1 : q < (pairP C K).length := by rw [pairP_len]; omega
    have : (pairP C K).filter (clmIs tb nm) = [(pairP C K)[q]] := filter_only l1 (by rw [pairP_is hqc (by omega)]; exact hx) fun j hj hne => by
      have hj2 := hj
      rw [pairP_len] at hj2
      rw [pairP_is (by omega) (by omega)]
      exact h j (by omega) (by omega) hne
    unfold clmK
    rw [this]
    show ((pairP C K)[q].2.2, 0) = _
    have e : (pairP C K)[q] = (C[q].2.1, C[q].2.2, K[q]) := by simp only [pairP, List.getElem_map, List.getElem_zip]
    rw [e]

set_option maxRecDepth 100000 in
set_option maxHeartbeats 4000000 in
theorem at_any {C : List It} (hC : C.length ≤ 500) (m : Nat) (hm : m ≤ 9223372036854775807) (x : Pg × Tg) {Q : Nat → Prop} {w : World} {a : Option Addr} {n c : Nat} (h : RowIs eItem Q w (.slice a n c) C) (ea : Option Addr) (en ec : Nat) :
    Calls Tryz.prog 41 #[.slice a n c, .int .i64 (m : Int), .agg #[.int .i64 x.1.1, .int .i64 x.1.2.1, .int .i64 x.1.2.2.1, .string x.1.2.2.2.1, .string x.1.2.2.2.2.1, .string x.1.2.2.2.2.2, .slice ea en ec]] w fun e w' => ∃ r er, e = .returned (.tuple #[.int .i64 r, .int .i64 er]) ∧ atR C m x.1.2.2.2.2.1 x.1.2.2.2.2.2 r er ∧ Below w.heap.size w w' := by
  obtain ⟨⟨op, k1, k2, k3, tb, nm⟩, f⟩ := x
  dsimp only
  have hw := bal (Below.refl w.heap.size w) (.cells #[.int .i64 op, .int .i64 k1, .int .i64 k2, .string k3, .string tb, .string nm, .slice ea en ec] 63)
  have bx := Bk.new w (.cells #[.int .i64 op, .int .i64 k1, .int .i64 k2, .string k3, .string tb, .string nm, .slice ea en ec] 63)
  generalize hW : w.alloc (.cells #[.int .i64 op, .int .i64 k1, .int .i64 k2, .string k3, .string tb, .string nm, .slice ea en ec] 63) = W at hw bx
  have d4 := bx.cell 4
  have d5 := bx.cell 5
  simp only [List.getElem?_toArray, List.getElem?_cons_zero, List.getElem?_cons_succ] at d4 d5
  obtain ⟨l1, l2, l3⟩ := h.lens
  have HR : Hid (∀ w', Below W.heap.size W w' → RowIs eItem Q w' (.slice a n c) C) := hid fun w' hb => h.keep (by decide) fun b _ hl => (Below.on hw hb).block b hl
  subst l1
  obtain ⟨r, hr⟩ : ∃ r, min C.length m = r := ⟨_, rfl⟩
  have hmi : min (C.length : Int) (m : Int) = (r : Int) := by omega
  have hrC : r ≤ C.length := by omega
  have HA2 : Hid (∀ i k, AtI C tb nm i k → 0 ≤ k → ∀ hi : i < C.length, i < r → itIs tb nm C[i] = true → atR C m tb nm (-1) 10) := hid fun i k h hk hi hir hn => atR_two h hk hi (by omega) hn
  have HA0 : Hid (∀ k, AtI C tb nm r k → k < 0 → atR C m tb nm (-1) 10) := hid fun k h hk => atR_none (hr ▸ h) hk
  have HA1 : Hid (∀ k, AtI C tb nm r k → 0 ≤ k → atR C m tb nm k 0) := hid fun k h hk => atR_one (hr ▸ h) hk
  replace hr : Hid _ := hid hr
  clear h bx
  go_enter Tryz.func41, Tryz.ntmps41
  go_upto_region 1 with fail
  go_wp2
  clear hW
  generalize w.heap.size = q at d4 d5 ⊢
  go_loopw [8, 9] (fun v8 v9 wr => ∃ (i : Nat) (k : Int), i ≤ r ∧ v9 = .int .i64 i ∧ v8 = .int .i64 k ∧ Hid (AtI C tb nm i k) ∧ -1 ≤ k ∧ k < 500 ∧ Below W.heap.size W wr) (fun _ i _ => r - (intOf i).toNat)
  case atStart => exact ⟨0, -1, Nat.zero_le _, rfl, rfl, hid (.inl ⟨rfl, fun j hj hji => absurd hji (by omega)⟩), by omega, by omega, Below.refl _ _⟩
  case round =>
    obtain ⟨i, k, hi, rfl, rfl, HI, hk1, hk2, hB⟩ := hrel
    have e4 := cell_later hB d4
    have e5 := cell_later hB d5
    by_cases hlt : i < r
    · have hic : i < C.length := by omega
      obtain ⟨_, _, _, e', _, _, _, hx⟩ := HR.out wr hB
      cases e'
      obtain ⟨b, o, rfl, -, hxi⟩ := hx (by omega)
      obtain ⟨cs, hE, -, hcc⟩ := hxi i hic
      have hE' : cs = [.int .i64 C[i].1, .string C[i].2.1, .string C[i].2.2] := hE
      subst hE'
      have c1 : wr.cell? ⟨b, o + i * 3 + 1, none⟩ = some (.string C[i].2.1) := hcc 1 (show 1 < 3 by decide)
      have c2 : wr.cell? ⟨b, o + i * 3 + 2, none⟩ = some (.string C[i].2.2) := hcc 2 (show 2 < 3 by decide)
      have hIs : itIs tb nm C[i] = (eqS C[i].2.2 nm && (eqS tb ⟨#[]⟩ || eqS tb C[i].2.1)) := rfl
      have HM : Hid (itIs tb nm C[i] = false → AtI C tb nm (i + 1) k) := hid fun hn => HI.out.miss hic hn
      have HH : Hid (k < 0 → itIs tb nm C[i] = true → AtI C tb nm (i + 1) i) := hid fun hk hn => HI.out.hit hk hic hn
      have HTw : Hid (0 ≤ k → itIs tb nm C[i] = true → atR C m tb nm (-1) 10) := hid fun hk hn => HA2.out i k HI.out hk hic hlt hn
      have n1 := same_str C[i].2.2 nm
      have n2 := empty_str tb
      have n3 := same_str tb C[i].2.1
      generalize itIs tb nm C[i] = B at *
      generalize C[i].2.1 = xt at *
      generalize C[i].2.2 = xn at *
      have him : (i : Int) < (r : Int) := by omega
      have hic' : (i : Int) < (C.length : Int) := by omega
      have hi5 : i < 500 := by omega
      clear hE hcc hxi hx
      by_cases hn1 : xn = nm
      · have e1 : (xn.toList == nm.toList) = true := by rw [n1]; simpa using hn1
        by_cases hn2 : tb = ⟨#[]⟩
        · have e2 : tb.toList.isEmpty = true := by rw [n2]; simpa using hn2
          obtain rfl : B = true := by rw [hIs]; unfold eqS; simp [hn1, hn2]
          by_cases hk : k < 0
          · have gk : ¬ (0 : Int) ≤ k := by omega
            have gd : decide ((0 : Int) ≤ k) = false := by simpa using gk
            clear n1 n2 n3 hIs
            clear hn1 hn2
            go_wp2
            go_quiet (fail)
            go_wp2
            go_roundw
            case rel => exact ⟨i + 1, i, by omega, by go_num, rfl, hid (HH.out hk (by first | rfl | trivial)), by omega, by omega, by first | exact hB | exact below_drewN hB _ | exact hB.drew⟩
            case measure => simp only [intOf]; omega
          · replace hk : (0 : Int) ≤ k := by omega
            clear n1 n2 n3 hIs
            clear hn1 hn2
            go_wp2
            go_quiet (fail)
            go_wp2
            exact bodyPost_ret (v := .tuple #[.int .i64 (-1), .int .i64 10]) (by simp [results, Tryz.results41]) rfl ⟨-1, 10, rfl, HTw.out hk (by first | rfl | trivial), by first | exact Below.on hw hB | exact Below.on hw (below_drewN hB _) | exact Below.on hw hB.drew⟩
        · have e2 : tb.toList.isEmpty = false := by rw [n2]; simpa using hn2
          by_cases hn3 : tb = xt
          · have e3 : (tb.toList == xt.toList) = true := by rw [n3]; simpa using hn3
            obtain rfl : B = true := by rw [hIs]; unfold eqS; simp [hn1, hn3]
            by_cases hk : k < 0
            · have gk : ¬ (0 : Int) ≤ k := by omega
              have gd : decide ((0 : Int) ≤ k) = false := by simpa using gk
              clear n1 n2 n3 hIs
              clear hn1 hn2 hn3
              go_wp2
              go_quiet (fail)
              go_wp2
              go_roundw
              case rel => exact ⟨i + 1, i, by omega, by go_num, rfl, hid (HH.out hk (by first | rfl | trivial)), by omega, by omega, by first | exact hB | exact below_drewN hB _ | exact hB.drew⟩
              case measure => simp only [intOf]; omega
            · replace hk : (0 : Int) ≤ k := by omega
              clear n1 n2 n3 hIs
              clear hn1 hn2 hn3
              go_wp2
              go_quiet (fail)
              go_wp2
              exact bodyPost_ret (v := .tuple #[.int .i64 (-1), .int .i64 10]) (by simp [results, Tryz.results41]) rfl ⟨-1, 10, rfl, HTw.out hk (by first | rfl | trivial), by first | exact Below.on hw hB | exact Below.on hw (below_drewN hB _) | exact Below.on hw hB.drew⟩
          · have e3 : (tb.toList == xt.toList) = false := by rw [n3]; simpa using hn3
            obtain rfl : B = false := by rw [hIs]; unfold eqS; simp [hn2, hn3]
            clear n1 n2 n3 hIs
            clear hn1 hn2 hn3
            go_wp2
            go_quiet (fail)
            go_wp2
            go_roundw
            case rel => exact ⟨i + 1, k, by omega, by go_num, rfl, hid (HM.out (by first | rfl | trivial)), hk1, hk2, by first | exact hB | exact below_drewN hB _ | exact hB.drew⟩
            case measure => simp only [intOf]; omega
      · have e1 : (xn.toList == nm.toList) = false := by rw [n1]; simpa using hn1
        obtain rfl : B = false := by rw [hIs]; unfold eqS; simp [hn1]
        clear n1 n2 n3 hIs
        clear hn1
        go_wp2
        go_quiet (fail)
        go_wp2
        go_roundw
        case rel => exact ⟨i + 1, k, by omega, by go_num, rfl, hid (HM.out (by first | rfl | trivial)), hk1, hk2, by first | exact hB | exact below_drewN hB _ | exact hB.drew⟩
        case measure => simp only [intOf]; omega
    · obtain rfl : i = r := by omega
      by_cases hk : k < 0
      · go_wp2
        exact bodyPost_ret (v := .tuple #[.int .i64 (-1), .int .i64 10]) (by simp [results, Tryz.results41]) rfl ⟨-1, 10, rfl, HA0.out k HI.out hk, Below.on hw hB⟩
      · have gk : ¬ k < 0 := hk
        have gd : decide (k < 0) = false := by simpa using gk
        go_wp2
        exact bodyPost_ret (v := .tuple #[.int .i64 k, .int .i64 0]) (by simp [results, Tryz.results41]) rfl ⟨k, 0, rfl, HA1.out k HI.out (by omega), Below.on hw hB⟩

end Go.Proofs.YtnlaaejdianfjaaGreat
namespace Go.Proofs.YtnlaaejdianfjaaGreat
open Go.RowKit
set_option linter.unusedVariables false
set_option linter.unusedSimpArgs false

/-- What a round may not touch, wherever it lies: all that is no cells, and the yields that iterators keep. -/
def prt : Obj → Bool
  | .cells _ t _ => decide (t = 124)
  | _ => true
/-- What a round leaves as it was: all that the iterator had ahead of it, and of all from B on what it may not touch. -/
structure Kps (n B : Nat) (W W' : World) : Prop where
  low : Below n W W'
  oth : ∀ k o, B ≤ k → W.heap[k]? = some o → prt o = true → W'.heap[k]? = some o
theorem Kps.trans {n B : Nat} {X Y Z : World} (h : Kps n B X Y) (k : Kps n B Y Z) : Kps n B X Z := ⟨h.low.trans k.low, fun i o hi hx hp => k.oth i o hi (h.oth i o hi hx hp) hp⟩
theorem Kps.mono {n B n' B' : Nat} {X Y : World} (h : Kps n B X Y) (hn : n' ≤ n) (hB : B ≤ B') : Kps n' B' X Y :=
  ⟨h.low.mono hn, fun k o hk => h.oth k o (Nat.le_trans hB hk)⟩
theorem Kps.of_below {n B : Nat} {X Y : World} (h : Below X.heap.size X Y) (hn : n ≤ X.heap.size) : Kps n B X Y :=
  ⟨h.mono hn, fun k o _ hk _ => (h.block k (Array.getElem?_eq_some_iff.1 hk).1).trans hk⟩
/-- A step that turns one block, of cells that may be touched. -/
theorem Kps.grown {n B : Nat} {X Y : World} {row : Option Nat} (hg : X.grownBy Y row) (hn : n ≤ X.heap.size) (hr : ∀ r, row = some r → n ≤ r ∧ ∀ o, X.heap[r]? = some o → prt o = false) : Kps n B X Y :=
  ⟨(Below.refl n X).grown hg hn fun k e => (hr k e).1, fun k o _ hk hp => (hg.block k (Array.getElem?_eq_some_iff.1 hk).1 fun e => by have := (hr k e.symm).2 o hk; rw [hp] at this; cases this).trans hk⟩
theorem Kps.setCell {n B : Nat} {X : World} (a : Addr) (v : Value) (hn : n ≤ a.block) (hr : ∀ o, X.heap[a.block]? = some o → prt o = false) : Kps n B X (X.setCell a v) :=
  ⟨(Below.refl n X).setCell hn v, fun k o _ hk hp => (Below.heap_setCell X a v k fun e => by subst e; rw [hr o hk] at hp; cases hp).trans hk⟩
/-- What an iterator leaves as it was, between two rounds: all below B, all cells. -/
structure Gr (B : Nat) (V W : World) : Prop where
  os : W.os = V.os
  tape : W.tape = V.tape
  output : W.output = V.output
  size : V.heap.size ≤ W.heap.size
  block : ∀ k o, V.heap[k]? = some o → (k < B ∨ o.isCells = true) → W.heap[k]? = some o
theorem Gr.refl (B : Nat) (V : World) : Gr B V V := ⟨rfl, rfl, rfl, Nat.le_refl _, fun _ _ h _ => h⟩
theorem Gr.trans {B : Nat} {X Y Z : World} (h : Gr B X Y) (k : Gr B Y Z) : Gr B X Z := ⟨k.os.trans h.os, k.tape.trans h.tape, k.output.trans h.output, Nat.le_trans h.size k.size, fun i o hi ho => k.block i o (h.block i o hi ho) ho⟩
theorem Gr.mono {B B' : Nat} {X Y : World} (h : Gr B X Y) (hB : B' ≤ B) : Gr B' X Y := ⟨h.os, h.tape, h.output, h.size, fun i o hi ho => h.block i o hi (ho.imp (fun x => Nat.lt_of_lt_of_le x hB) id)⟩
theorem Gr.of_below {B : Nat} {X Y : World} (h : Below X.heap.size X Y) : Gr B X Y := ⟨h.os, h.tape, h.output, h.size, fun i o hi _ => (h.block i (Array.getElem?_eq_some_iff.1 hi).1).trans hi⟩
theorem Gr.put {B : Nat} {X Y : World} (h : Gr B X Y) {l : Nat} {o : Obj} (o' : Obj) (hB : B ≤ l) (hl : Y.heap[l]? = some o) (ho : o.isCells = false) : Gr B X (Y.putObj l o') :=
  h.trans ⟨rfl, rfl, rfl, by simp, fun i p hi hp => by
    by_cases e : i = l
    · subst e
      rw [hl] at hi; cases hi
      rcases hp with hp | hp
      · omega
      · rw [ho] at hp; cases hp
    · exact (World.putObj_heap_other e).trans hi⟩
theorem Gr.below {B n : Nat} {X Y : World} (h : Gr B X Y) (hn : n ≤ B) (hx : n ≤ X.heap.size) : Below n X Y := ⟨h.os, h.tape, h.output, h.size, fun k hk => by
  have hk' : k < X.heap.size := by omega
  rw [Array.getElem?_eq_getElem hk']
  exact h.block k _ (Array.getElem?_eq_getElem hk') (.inl (by omega))⟩
theorem Gr.cell {B : Nat} {X Y : World} (h : Gr B X Y) {a : Addr} {v : Value} (hc : X.cell? a = some v) : Y.cell? a = some v ∧ Y.frozen? a = X.frozen? a := by
  have hb : a.block < X.heap.size := World.block_lt_of_cell? _ _ hc
  have ho : (X.heap[a.block]).isCells = true := by
    unfold World.cell? at hc
    rw [Array.getElem?_eq_getElem hb] at hc
    generalize X.heap[a.block] = o at *
    cases o <;> first | rfl | (simp at hc)
  have hk : Y.heap[a.block]? = X.heap[a.block]? := by
    rw [Array.getElem?_eq_getElem hb]
    exact h.block a.block _ (Array.getElem?_eq_getElem hb) (.inr ho)
  exact ⟨(World.cell?_of_block hk).trans hc, World.frozen?_of_block hk⟩
/-- An iterator that tells N things, the k-th such as A says, whoever asks, as long as he keeps what there was. -/
def SeqW (P : Program) (g : Nat) (lb : Array Value) (N : Nat) (A : Nat → Nat → World → Array Value → Prop) (w0 : World) : Prop :=
  ∀ (l : Nat) (J Jx : Nat → World → Prop) (W : World), Below w0.heap.size w0 W →
    (∀ k W1 W2 xs, k < N → J k W1 → Below w0.heap.size w0 W2 → Gr W.heap.size W1 W2 → A k W1.heap.size W2 xs → YieldAt Fence.wide 0 P l xs W2 fun e W' => Kps w0.heap.size W.heap.size W2 W' ∧ ((e = .returned (.bool true) ∧ J (k + 1) W') ∨ (e = .returned (.bool false) ∧ Jx (k + 1) W'))) →
    J 0 W → Calls P g (#[.func (.yield l) #[] #[]] ++ lb) W fun e W' => (∃ v, e = .returned v) ∧ Below w0.heap.size w0 W' ∧ ∃ W1, Gr W.heap.size W1 W' ∧ (J N W1 ∨ ∃ k, k ≤ N ∧ Jx k W1)
theorem kps_put {n : Nat} (W : World) {l : Nat} {o : Obj} (o' : Obj) (hn : n ≤ l) (hl : W.heap[l]? = some o) : Below n W (W.putObj l o') :=
  (Below.refl n W).grown (grownBy_putObj' W l o') (by have := (Array.getElem?_eq_some_iff.1 hl).1; omega) (fun k e => by cases e; exact hn)
/-- How a round may end. -/
def rndP (n B : Nat) (I : Nat → World → Prop) (Ix : Code → Nat → World → Prop) (k : Nat) (W : World) : Exit → Act → World → Prop
  | .normal, _, W' => Kps n B W W' ∧ I k W'
  | .ret, _, W' => Kps n B W W' ∧ Ix .ret k W'
  | .exit id, _, W' => Kps n B W W' ∧ Ix (.exit id) k W'
  | .goto t, _, W' => Kps n B W W' ∧ Ix (.goto t) k W'
  | _, _, _ => False
set_option maxRecDepth 10000 in
/-- The loop. -/
theorem range_any {P : Program} {g : Operand} {ps : Array Tmp} {assign body : Code} {Q : Exit → Act → World → Prop} {a : Act} {w : World} {gf : Nat} {lb : Array Value} {N : Nat} {A : Nat → Nat → World → Array Value → Prop} {w0 : World}
    (hg : a.eval g = .func (.func gf) #[] lb) (eg : ∀ args w, (callFunc gf args).run P w = .ok (.enter gf args) w) (hseq : SeqW P gf lb N A w0) (hb0 : Below w0.heap.size w0 w)
    (hA : ∀ {k s s' W W' xs}, A k s W xs → s' ≤ s → Gr 0 W W' → A k s' W' xs ∧ xs.size = ps.size)
    (I : Nat → World → Prop) (Ix : Code → Nat → World → Prop) (h0 : I 0 w) (a1 : Array Value → Act)
    (has : ∀ (l : Nat) (xs : Array Value) (W : World) (K : Act → World → Prop), (∃ k s V, A k s V xs) → K (a1 xs) W → assign.wpIn (Fence.wide.inRound l) 0 P (Exit.then K (fun _ _ _ => False)) { tmps := (ps.zip xs).foldl (fun t (p, v) => t.setIfInBounds p v) a.tmps, defers := [] } W)
    (hbo : ∀ (l k : Nat) (V W : World) (xs : Array Value), k < N → I k V → Gr w.heap.size V W → Below w0.heap.size w0 W → A k V.heap.size W xs → body.wpIn (Fence.wide.inRound l) 0 P (rndP w0.heap.size w.heap.size I Ix (k + 1) W) (a1 xs) W)
    (hdone : ∀ (D : Nat) (V W : World), w.heap.size ≤ D → I N V → Gr w.heap.size V W → Below w0.heap.size w0 W → W.heap[D]? = some (.deferred (some [])) → Q .normal { a with defers := { target := .collected D, args := #[] } :: a.defers } W)
    (hstop : ∀ (D : Nat) (c : Code) (k : Nat) (V W : World), w.heap.size ≤ D → k ≤ N → Ix c k V → Gr w.heap.size V W → Below w0.heap.size w0 W → W.heap[D]? = some (.deferred (some [])) → c.wpIn Fence.wide 0 P Q { a with defers := { target := .collected D, args := #[] } :: a.defers } W) :
    (Code.rangeFunc g ps assign body).wpIn Fence.wide 0 P Q a w := by
  refine wpIn_rangeFunc fun fn _ => ?_
  obtain ⟨R, hR⟩ : ∃ R : LoopState → Option Code → Loop, R = fun st pe => ⟨st, pe, fn, a.tmps, ps, assign, body, w.heap.size⟩ := ⟨_, rfl⟩
  have rs : ∀ st pe, (R st pe).state = st := fun st pe => by rw [hR]
  have rp : ∀ st pe, (R st pe).pending = pe := fun st pe => by rw [hR]
  obtain ⟨X, hX⟩ : ∃ X, (w.alloc (.deferred (some []))).alloc (.loop (R .ready none)) = X := ⟨_, rfl⟩
  have hXs : X.heap.size = w.heap.size + 2 := by rw [← hX]; simp
  have hwX : Below w.heap.size w X := by rw [← hX]; exact ((Below.refl _ w).alloc (Nat.le_refl _) _).alloc (by simp) _
  have hXl : X.heap[w.heap.size + 1]? = some (.loop (R .ready none)) := by
    rw [← hX]
    have := World.alloc_heap_new (w.alloc (.deferred (some []))) (.loop (R .ready none))
    rwa [World.size_alloc] at this
  have hXd : X.heap[w.heap.size]? = some (.deferred (some [])) := by
    rw [← hX]; exact (Below.heap_alloc _ _ _ (by simp)).trans (World.alloc_heap_new w _)
  have hrun : (Instr.enterLoop fn a.tmps ps assign body none).run P w = .ok (w.heap.size + 1, [{ target := .collected w.heap.size, args := #[] }]) X := by
    rw [run_enterLoop_outer, ← hX, hR]
  refine ⟨w.heap.size + 1, [{ target := .collected w.heap.size, args := #[] }], X, { target := .fn (.func gf) lb, args := #[.func (.yield (w.heap.size + 1)) #[] #[]] }, X, gf, #[.func (.yield (w.heap.size + 1)) #[] #[]] ++ lb, X, hrun, ?_, fun _ _ => trivial, ?_, fun h => by simp [Fence.wide] at h, ?_⟩
  · simp only [resolve, hg]
    simp [go_sem]
  · simp [invoke, go_sem, eg]
  have two : ∀ {Y Z : World}, Gr X.heap.size Y Z → ∀ {i : Nat} {o : Obj}, i < X.heap.size → Y.heap[i]? = some o → Z.heap[i]? = some o := fun hgr i o hi hy => hgr.block i o hy (.inl hi)
  have hw0 := hb0.size
  refine callsIn_wide.2 ((hseq (w.heap.size + 1)
    (fun k W => (∃ V, I k V ∧ Gr w.heap.size V W) ∧ W.heap[w.heap.size + 1]? = some (.loop (R .ready none)) ∧ W.heap[w.heap.size]? = some (.deferred (some [])))
    (fun k W => ∃ c, (∃ V, Ix c k V ∧ Gr w.heap.size V W) ∧ W.heap[w.heap.size + 1]? = some (.loop (R .done (some c))) ∧ W.heap[w.heap.size]? = some (.deferred (some [])))
    X (hb0.trans (hwX.mono hb0.size)) ?_ ⟨⟨w, h0, Gr.of_below hwX⟩, hXl, hXd⟩).mono ?_)
  · rintro k W1 W xs hk ⟨⟨V, hi, hV⟩, hl1, hd1⟩ hbW hgr hAx
    have hl := two hgr (by omega) hl1
    have hd := two hgr (by omega) hd1
    have hy := run_yield (P := P) (args := xs) hl (by rw [hR]; exact (hA hAx (Nat.le_refl _) (Gr.refl _ _)).2)
    obtain ⟨Y, hY⟩ : ∃ Y, W.putObj (w.heap.size + 1) (.loop (R .busy none)) = Y := ⟨_, rfl⟩
    have hbeg : (Instr.beginRound (w.heap.size + 1)).run P W = .ok () Y := by
      rw [run_beginRound hl (rs _ _), ← hY]
      exact congrArg (fun r => Result.ok () (W.putObj (w.heap.size + 1) (.loop r))) (by rw [hR])
    have hll : w.heap.size + 1 < W.heap.size := (Array.getElem?_eq_some_iff.1 hl).1
    have hYl : Y.heap[w.heap.size + 1]? = some (.loop (R .busy none)) := by rw [← hY]; exact World.putObj_heap_same hll
    have hYd : Y.heap[w.heap.size]? = some (.deferred (some [])) := by rw [← hY]; exact (World.putObj_heap_other (by omega)).trans hd
    have hWY : Below w0.heap.size W Y := by rw [← hY]; exact kps_put W _ (by omega) hl
    have hWG : Gr w.heap.size W Y := by rw [← hY]; exact (Gr.refl _ _).put _ (by omega) hl rfl
    have hsY : Y.heap.size = W.heap.size := by rw [← hY]; simp
    rw [hR] at hy
    refine ⟨fn, _, assign, body, hy, roundIn_of_wpIn trivial (has _ xs W _ ⟨_, _, _, hAx⟩ ⟨Y, hbeg, ?_⟩)⟩
    refine wpIn_mono (hbo _ k V Y xs hk hi ((hV.trans (hgr.mono (by omega))).trans hWG) (hbW.trans hWY) (hA hAx hV.size (hWG.mono (Nat.zero_le _))).1) ?_
    -- the end of a round, whichever
    have fin : ∀ (j : Option Code) (Z : World), Kps w0.heap.size w.heap.size Y Z → ∃ U, (Instr.endRound (w.heap.size + 1) j).run P Z = .ok (.bool j.isNone) U ∧ Gr w.heap.size Z U ∧
        Kps w0.heap.size X.heap.size W U ∧ U.heap[w.heap.size + 1]? = some (.loop (R (if j.isNone then .ready else .done) j)) ∧ U.heap[w.heap.size]? = some (.deferred (some [])) := fun j Z hz => by
      have hZl := hz.oth _ _ (by omega) hYl rfl
      have hZd := hz.oth _ _ (Nat.le_refl _) hYd rfl
      have hlz : w.heap.size + 1 < Z.heap.size := (Array.getElem?_eq_some_iff.1 hZl).1
      refine ⟨_, (run_endRound j hZl).trans (congrArg (fun r => Result.ok (Value.bool j.isNone) (Z.putObj (w.heap.size + 1) (.loop r))) (by rw [hR])), (Gr.refl _ _).put _ (by omega) hZl rfl, ⟨(hWY.trans hz.low).trans (kps_put Z _ (by omega) hZl), ?_⟩, World.putObj_heap_same hlz, (World.putObj_heap_other (by omega)).trans hZd⟩
      · intro i o hi ho hc
        have hne : i ≠ w.heap.size + 1 := by omega
        rw [World.putObj_heap_other hne]
        refine hz.oth i o (by omega) ?_ hc
        rw [← hY, World.putObj_heap_other hne]; exact ho
    rintro e b Z hp
    cases e with
    | normal =>
      obtain ⟨U, hr, hU, hkp, hl', hd'⟩ := fin none Z hp.1
      exact ⟨_, U, hr, hkp, .inl ⟨rfl, ⟨Z, hp.2, hU⟩, hl', hd'⟩⟩
    | ret =>
      obtain ⟨U, hr, hU, hkp, hl', hd'⟩ := fin (some .ret) Z hp.1
      exact ⟨_, U, hr, hkp, .inr ⟨rfl, _, ⟨Z, hp.2, hU⟩, hl', hd'⟩⟩
    | exit id =>
      obtain ⟨U, hr, hU, hkp, hl', hd'⟩ := fin (some (.exit id)) Z hp.1
      exact ⟨_, U, hr, hkp, .inr ⟨rfl, _, ⟨Z, hp.2, hU⟩, hl', hd'⟩⟩
    | goto t =>
      obtain ⟨U, hr, hU, hkp, hl', hd'⟩ := fin (some (.goto t)) Z hp.1
      exact ⟨_, U, hr, hkp, .inr ⟨rfl, _, ⟨Z, hp.2, hU⟩, hl', hd'⟩⟩
    | panic ch => exact hp.elim
    | outgrown => exact hp.elim
  · rintro e Z ⟨⟨v, rfl⟩, hbZ, W1, hG, ⟨⟨V, hi, hV⟩, hl1, hd1⟩ | ⟨k, hk, c, ⟨V, hi, hV⟩, hl1, hd1⟩⟩
    · have hl := two hG (by omega) hl1
      have hd := two hG (by omega) hd1
      refine ⟨none, _, (run_endLoop hl (by rw [rs]; simp)).trans (by rw [rp]), ?_⟩
      exact hdone _ V _ (Nat.le_refl _) hi ((hV.trans (hG.mono (by omega))).put _ (by omega) hl rfl) (hbZ.trans (kps_put Z _ (by omega) hl)) ((World.putObj_heap_other (by omega)).trans hd)
    · have hl := two hG (by omega) hl1
      have hd := two hG (by omega) hd1
      refine ⟨some c, _, (run_endLoop hl (by rw [rs]; simp)).trans (by rw [rp]), ?_⟩
      exact hstop _ c k V _ (Nat.le_refl _) hk hi ((hV.trans (hG.mono (by omega))).put _ (by omega) hl rfl) (hbZ.trans (kps_put Z _ (by omega) hl)) ((World.putObj_heap_other (by omega)).trans hd)
theorem SeqW.later {P : Program} {g : Nat} {lb : Array Value} {N : Nat} {A : Nat → Nat → World → Array Value → Prop} {w w' : World} (h : SeqW P g lb N A w) (hb : Below w.heap.size w w') : SeqW P g lb N A w' :=
  fun l J Jx W hW hY h0 => by
    refine (h l (fun k W1 => J k W1 ∧ Below w'.heap.size w' W1) (fun k W1 => Jx k W1 ∧ Below w'.heap.size w' W1) W (hb.trans (hW.mono hb.size)) (fun k W1 W2 xs hk hj hb2 hg hA => ?_) ⟨h0, hW⟩).mono ?_
    · have hW2 : Below w'.heap.size w' W2 := hj.2.trans (hg.below hW.size hj.2.size)
      obtain ⟨fn, tmps, assign, body, hy, hR⟩ := hY k W1 W2 xs hk hj.1 hW2 hg hA
      exact ⟨fn, tmps, assign, body, hy, hR.mono fun e W' hp => ⟨hp.1.mono hb.size (Nat.le_refl _), hp.2.imp (fun q => ⟨q.1, q.2, hW2.trans hp.1.low⟩) (fun q => ⟨q.1, q.2, hW2.trans hp.1.low⟩)⟩⟩
    · rintro e W' ⟨hv, hbW, W1, hG, ⟨hj, hq⟩ | ⟨k, hk, hj, hq⟩⟩
      · exact ⟨hv, hq.trans (hG.below hW.size hq.size), W1, hG, .inl hj⟩
      · exact ⟨hv, hq.trans (hG.below hW.size hq.size), W1, hG, .inr ⟨k, hk, hj⟩⟩

end Go.Proofs.YtnlaaejdianfjaaGreat
