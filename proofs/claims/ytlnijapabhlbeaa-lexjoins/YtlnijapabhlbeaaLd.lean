/- The walk of LexSigns. -/
import Derived.Test.YtlnijapabhlbeaaLc
namespace Go.Proofs.Ytlnijapabhlbeaa
open Go.RowKit
set_option linter.unusedVariables false

/-- The signs of one byte. -/
def sl : List UInt8 := [40, 41, 44, 46, 61, 60, 62, 43, 45, 42]
theorem conv_one (w : World) (a : UInt8) : (convert 33 9 (.slice (some ⟨w.heap.size, 0, none⟩) 1 1)).run Try.prog (w.alloc (.cells #[.int .u8 (a.toNat : Int)] 5)) = .ok (.string ⟨#[a]⟩) (w.alloc (.cells #[.int .u8 (a.toNat : Int)] 5)) := by
  refine run_convert_bytes_back (P := Try.prog) (w.alloc (.cells #[.int .u8 (a.toNat : Int)] 5)) 33 9 5 ⟨w.heap.size, 0, none⟩ 1 [a] Try.underlying33 Try.underlying5 Try.underlying9 ?_
  intro j hj
  obtain rfl : j = 0 := by simpa using hj
  simp [Addr.add, World.cell?_alloc_at]
theorem conv_two (w : World) (a b : UInt8) : (convert 33 9 (.slice (some ⟨w.heap.size, 0, none⟩) 2 2)).run Try.prog (w.alloc (.cells #[.int .u8 (a.toNat : Int), .int .u8 (b.toNat : Int)] 5)) = .ok (.string ⟨#[a, b]⟩) (w.alloc (.cells #[.int .u8 (a.toNat : Int), .int .u8 (b.toNat : Int)] 5)) := by
  refine run_convert_bytes_back (P := Try.prog) (w.alloc (.cells #[.int .u8 (a.toNat : Int), .int .u8 (b.toNat : Int)] 5)) 33 9 5 ⟨w.heap.size, 0, none⟩ 2 [a, b] Try.underlying33 Try.underlying5 Try.underlying9 ?_
  intro j hj
  match j, hj with
  | 0, _ => simp [Addr.add, World.cell?_alloc_at]
  | 1, _ => simp [Addr.add, World.cell?_alloc_at]

/-- Is it told as one sign? -/
def sgn1 (l : List Tk) (e : Int) : Bool := decide (e = 0) && (decide (l.length = 2) && decide ((tth l 0).1 = 5))
theorem one_tab : ∀ n, n < 256 → (lxF 3 ⟨#[UInt8.ofNat n]⟩ 0).2.2 ≠ 99 ∧ sgn1 (lxF 3 ⟨#[UInt8.ofNat n]⟩ 0).1 (lxF 3 ⟨#[UInt8.ofNat n]⟩ 0).2.2 = sl.contains (UInt8.ofNat n) := by decide +kernel
theorem one_all (a : UInt8) {l : List Tk} {p e : Int} (h : LexR ⟨#[a]⟩ l p e) : sgn1 l e = sl.contains a := by
  have := one_tab a.toNat (UInt8.toNat_lt a)
  rw [UInt8.ofNat_toNat] at this
  obtain ⟨h1, h2⟩ := this
  have h3 : LexR ⟨#[a]⟩ _ _ _ := lexR_of 3 (by show 1 ≤ 400; omega) rfl h1
  obtain ⟨rfl, _, rfl⟩ := h.det h3
  exact h2
/-- Are two signs one? -/
def two2 (a b : UInt8) : Bool := (decide (a.toNat = 60) && (decide (b.toNat = 62) || decide (b.toNat = 61))) || (decide (a.toNat = 62) && decide (b.toNat = 61))
theorem two_tab : ∀ a ∈ sl, ∀ b ∈ sl, lxF 5 ⟨#[a, b]⟩ 0 = (if two2 a b then [(5, ⟨#[a, b]⟩, 0, 0), (6, ⟨#[]⟩, 0, 2)] else [(5, ⟨#[a]⟩, 0, 0), (5, ⟨#[b]⟩, 0, 1), (6, ⟨#[]⟩, 0, 2)], 0, 0) := by decide +kernel
theorem two_all {a b : UInt8} (ha : a ∈ sl) (hb : b ∈ sl) : LexR ⟨#[a, b]⟩ (if two2 a b then [(5, ⟨#[a, b]⟩, 0, 0), (6, ⟨#[]⟩, 0, 2)] else [(5, ⟨#[a]⟩, 0, 0), (5, ⟨#[b]⟩, 0, 1), (6, ⟨#[]⟩, 0, 2)]) 0 0 :=
  lexR_of 5 (by show 2 ≤ 400; omega) (two_tab a ha b hb) (by decide)

theorem cont_step {l : List UInt8} {k : Nat} {a d : UInt8} (hk : k < l.length) : (l.take (k + 1)).contains a = ((l.take k).contains a || decide (l.getD k d = a)) := by
  rw [List.take_add_one, List.getElem?_eq_getElem hk, List.getD, List.getElem?_eq_getElem hk, Bool.eq_iff_iff]
  simp only [List.contains_iff_mem, List.mem_append, Bool.or_eq_true, decide_eq_true_eq, Option.toList_some, List.mem_singleton, Option.getD_some]
  exact or_congr Iff.rfl ⟨Eq.symm, Eq.symm⟩
theorem sl_index (k : Nat) (hk : k < 10) (w : World) : (Instr.index 9 (.string ⟨#[40, 41, 44, 46, 61, 60, 62, 43, 45, 42]⟩) (.int .i64 (k : Int))).run Try.prog w = .ok (.int .u8 ((sl.getD k 0).toNat : Int)) w := by
  match k, hk with
  | 0, _ => rfl
  | 1, _ => rfl
  | 2, _ => rfl
  | 3, _ => rfl
  | 4, _ => rfl
  | 5, _ => rfl
  | 6, _ => rfl
  | 7, _ => rfl
  | 8, _ => rfl
  | 9, _ => rfl
/-- For the walk: which place, if it is this one. -/
theorem place_step {p : Int} {k : Nat} {a : UInt8} (hk : k < 10) (h : decide (0 ≤ p) = (sl.take k).contains a) (q : Int) (h1 : (sl.getD k 0).toNat = a.toNat → q = k) (h2 : (sl.getD k 0).toNat ≠ a.toNat → q = p) : decide (0 ≤ q) = (sl.take (k + 1)).contains a := by
  rw [cont_step (d := 0) hk]
  by_cases e : (sl.getD k 0).toNat = a.toNat
  · rw [h1 e, decide_eq_true (UInt8.toNat_inj.1 e)]; simp
  · rw [h2 e, h, decide_eq_false (fun e' => e (by rw [e']))]; simp

set_option maxRecDepth 100000 in
set_option maxHeartbeats 2000000 in
theorem signs_any (a b : UInt8) (w : World) : Calls Try.prog 8 #[.int .u8 (a.toNat : Int), .int .u8 (b.toNat : Int)] w fun e w' => e = .returned (.bool true) ∧ Below w.heap.size w w' := by
  have HB : Hid _ := begun_any w
  have HL1 : Hid (∀ w, _) := fun w => lex_any ⟨#[a]⟩ (by show 1 ≤ 9223372036854775807; omega) w
  have HL2 : Hid (∀ w, _) := fun w => lex_any ⟨#[a, b]⟩ (by show 2 ≤ 9223372036854775807; omega) w
  go_enter Try.func8, Try.ntmps8
  go_wp2_with fail
  refine Calls.mono HB.out ?_
  rintro e w1 ⟨rfl, hb1⟩
  clear HB
  go_wp2
  go_loopw [5, 6, 7] (fun x y i wr => ∃ (k : Nat) (p q : Int), k ≤ 10 ∧ i = .int .i64 k ∧ x = .int .i64 p ∧ y = .int .i64 q ∧ Hid (decide (0 ≤ p) = (sl.take k).contains a) ∧ Hid (decide (0 ≤ q) = (sl.take k).contains b) ∧ wr = w1) (fun _ _ i _ => 10 - (intOf i).toNat)
  case atStart => exact ⟨0, -1, -1, by omega, rfl, rfl, rfl, rfl, rfl, rfl⟩
  case round =>
    obtain ⟨k, p, q, hk, rfl, rfl, rfl, HP, HQ, rfl⟩ := hrel
    by_cases hlt : k < 10
    · have hidx := sl_index k hlt
      have FP := fun r h1 h2 => place_step hlt HP.out r h1 h2
      have FQ := fun r h1 h2 => place_step hlt HQ.out r h1 h2
      replace FP : Hid _ := FP
      replace FQ : Hid _ := FQ
      clear HP HQ HL1 HL2
      generalize (sl.getD k 0).toNat = d at *
      by_cases e1 : d = a.toNat
      · have g1 : ((d : Int) == (a.toNat : Int)) = true := by simp; omega
        have NP : Hid _ := FP.out k (fun _ => rfl) (fun h => absurd e1 h)
        by_cases e2 : d = b.toNat
        · have g2 : ((d : Int) == (b.toNat : Int)) = true := by simp; omega
          have NQ : Hid _ := FQ.out k (fun _ => rfl) (fun h => absurd e2 h)
          clear FP FQ e1 e2
          go_wp2
          go_roundw
          case rel => exact ⟨k + 1, k, k, by omega, by go_num, rfl, rfl, NP, NQ, trivial⟩
          case measure => simp only [intOf]; omega
        · have g2 : ((d : Int) == (b.toNat : Int)) = false := by simp; omega
          have NQ : Hid _ := FQ.out q (fun h => absurd h e2) (fun _ => rfl)
          clear FP FQ e1 e2
          go_wp2
          go_roundw
          case rel => exact ⟨k + 1, k, q, by omega, by go_num, rfl, rfl, NP, NQ, trivial⟩
          case measure => simp only [intOf]; omega
      · have g1 : ((d : Int) == (a.toNat : Int)) = false := by simp; omega
        have NP : Hid _ := FP.out p (fun h => absurd h e1) (fun _ => rfl)
        by_cases e2 : d = b.toNat
        · have g2 : ((d : Int) == (b.toNat : Int)) = true := by simp; omega
          have NQ : Hid _ := FQ.out k (fun _ => rfl) (fun h => absurd e2 h)
          clear FP FQ e1 e2
          go_wp2
          go_roundw
          case rel => exact ⟨k + 1, p, k, by omega, by go_num, rfl, rfl, NP, NQ, trivial⟩
          case measure => simp only [intOf]; omega
        · have g2 : ((d : Int) == (b.toNat : Int)) = false := by simp; omega
          have NQ : Hid _ := FQ.out q (fun h => absurd h e2) (fun _ => rfl)
          clear FP FQ e1 e2
          go_wp2
          go_roundw
          case rel => exact ⟨k + 1, p, q, by omega, by go_num, rfl, rfl, NP, NQ, trivial⟩
          case measure => simp only [intOf]; omega
    · obtain rfl : k = 10 := by omega
      have hP := HP.out
      have hQ := HQ.out
      rw [show sl.take 10 = sl from rfl] at hP hQ
      clear HP HQ hlt hk
      have hcv := conv_one wr a
      cases hA : sl.contains a with
      | false =>
        rw [hA] at hP
        have p1 : decide (p < 0) = true := by simp at hP ⊢; omega
        clear HL2 hQ
        go_wp2_with fail
        refine Calls.mono (HL1.out _) ?_
        rintro e w2 ⟨ao, n, c, ts, x, f, rfl, hr, hl, hb⟩
        have h1 := one_all a hl
        rw [hA] at h1
        have hB := Below.on ((hb1.alloc hb1.size (.cells #[.int .u8 (a.toNat : Int)] 5))) hb
        clear HL1 hcv hl hA
        by_cases hf : f = 0
        · subst hf
          have hlen := hr.len
          have hcap := hr.cap
          have hmax := hr.max
          by_cases hn : n = 2
          · subst hn
            obtain ⟨b0, o0, rfl, hc⟩ := hr.cells (by omega)
            have k0 := (hc 0 (by omega)).1
            rw [Nat.zero_mul, Nat.add_zero] at k0
            have h5 : ((tth ts 0).1 == 5) = false := by
              simp [sgn1, hlen] at h1
              simpa using h1
            generalize (tth ts 0).1 = kk at *
            clear h1 hr hc hlen
            go_wp2
            go_ret
            exact ⟨rfl, hB⟩
          · have hn' : ((n : Int) == 2) = false := by simp; omega
            clear h1 hr hlen
            go_wp2
            go_ret
            exact ⟨rfl, hB⟩
        · have hf' : (f == 0) = false := by simpa using hf
          clear h1 hr
          go_wp2
          go_ret
          exact ⟨rfl, hB⟩
      | true =>
        rw [hA] at hP
        have p1 : decide (p < 0) = false := by simp at hP ⊢; omega
        go_wp2_with fail
        refine Calls.mono (HL1.out _) ?_
        rintro e w2 ⟨ao, n, c, ts, x, f, rfl, hr, hl, hb⟩
        have h1 := one_all a hl
        rw [hA] at h1
        have hB := Below.on ((hb1.alloc hb1.size (.cells #[.int .u8 (a.toNat : Int)] 5))) hb
        have ha : a ∈ sl := List.contains_iff_mem.1 hA
        clear HL1 hcv hl hA
        simp only [sgn1, Bool.and_eq_true, decide_eq_true_eq] at h1
        obtain ⟨rfl, h2, h3⟩ := h1
        have hlen := hr.len
        have hcap := hr.cap
        have hmax := hr.max
        obtain rfl : n = 2 := by omega
        obtain ⟨b0, o0, rfl, hc⟩ := hr.cells (by omega)
        have k0 := (hc 0 (by omega)).1
        rw [Nat.zero_mul, Nat.add_zero, h3] at k0
        clear hr hc hlen h2 h3
        cases hBb : sl.contains b with
        | false =>
          rw [hBb] at hQ
          have q1 : decide (q < 0) = true := by simp at hQ ⊢; omega
          clear HL2
          go_wp2
          go_ret
          exact ⟨rfl, hB⟩
        | true =>
          rw [hBb] at hQ
          have q1 : decide (q < 0) = false := by simp at hQ ⊢; omega
          have hb' : b ∈ sl := List.contains_iff_mem.1 hBb
          have h2 := two_all ha hb'
          have hcv2 := conv_two w2 a b
          clear hBb ha hb'
          go_wp2_with fail
          refine Calls.mono (HL2.out _) ?_
          rintro e w3 ⟨ao2, n2, c2, ts2, x2, f2, rfl, hr2, hl2, hb2⟩
          obtain ⟨rfl, rfl, rfl⟩ := h2.det hl2
          have hB2 := Below.on (hB.alloc hB.size (.cells #[.int .u8 (a.toNat : Int), .int .u8 (b.toNat : Int)] 5)) hb2
          have hlen := hr2.len
          have hcap := hr2.cap
          have hmax := hr2.max
          clear HL2 hcv2 h2 hl2 hb2 k0 hB hb
          by_cases a60 : a.toNat = 60
          · by_cases b62 : b.toNat = 62
            · have ga0 : ((a.toNat : Int) == 60) = true := by simp; omega
              have gb2 : ((b.toNat : Int) == 62) = true := by simp; omega
              have gb1 : ((b.toNat : Int) == 61) = false := by simp; omega
              have ga2 : ((a.toNat : Int) == 62) = false := by simp; omega
              have hT : two2 a b = true := by simp [two2]; omega
              rw [hT] at hlen hr2
              rw [if_pos rfl] at hlen hr2
              obtain rfl : n2 = 2 := hlen.symm
              obtain ⟨b2, o2, rfl, hc⟩ := hr2.cells (by omega)
              have k1 := (hc 0 (by omega)).2.1
              simp only [tth, List.getElem?_cons_zero, Option.getD_some] at k1
              rw [Nat.zero_mul, Nat.add_zero] at k1
              have hD : Below w3.heap.size w3 w3.drew := (Below.refl _ _).drew
              have k2 := cell_later (hD.alloc (Nat.le_refl _) (.cells #[.int .u8 (a.toNat : Int), .int .u8 (b.toNat : Int)] 5)) k1
              have hB3 := Below.on hB2 (hD.alloc (Nat.le_refl _) (.cells #[.int .u8 (a.toNat : Int), .int .u8 (b.toNat : Int)] 5))
              clear hr2 hc hlen hT a60 b62
              have hcv3 : (convert 33 9 (.slice (some ⟨w3.heap.size, 0, none⟩) 2 2)).run Try.prog (w3.alloc (.cells #[.int .u8 (a.toNat : Int), .int .u8 (b.toNat : Int)] 5)).drew = .ok (.string ⟨#[a, b]⟩) (w3.alloc (.cells #[.int .u8 (a.toNat : Int), .int .u8 (b.toNat : Int)] 5)).drew := conv_two w3.drew a b
              go_wp2
              go_region_held (fun w' => w'.cell? ⟨b2, o2 + 1, none⟩ = some (.string ⟨#[a, b]⟩)) (first | exact k1 | exact k2 | go_keep) (fail)
              all_goals
                go_wp2
                go_ret
                exact ⟨rfl, hB3⟩
            · by_cases b61 : b.toNat = 61
              · have ga0 : ((a.toNat : Int) == 60) = true := by simp; omega
                have gb2 : ((b.toNat : Int) == 62) = false := by simp; omega
                have gb1 : ((b.toNat : Int) == 61) = true := by simp; omega
                have ga2 : ((a.toNat : Int) == 62) = false := by simp; omega
                have hT : two2 a b = true := by simp [two2]; omega
                rw [hT] at hlen hr2
                rw [if_pos rfl] at hlen hr2
                obtain rfl : n2 = 2 := hlen.symm
                obtain ⟨b2, o2, rfl, hc⟩ := hr2.cells (by omega)
                have k1 := (hc 0 (by omega)).2.1
                simp only [tth, List.getElem?_cons_zero, Option.getD_some] at k1
                rw [Nat.zero_mul, Nat.add_zero] at k1
                have hD : Below w3.heap.size w3 w3.drew := (Below.refl _ _).drew
                have k2 := cell_later (hD.alloc (Nat.le_refl _) (.cells #[.int .u8 (a.toNat : Int), .int .u8 (b.toNat : Int)] 5)) k1
                have hB3 := Below.on hB2 (hD.alloc (Nat.le_refl _) (.cells #[.int .u8 (a.toNat : Int), .int .u8 (b.toNat : Int)] 5))
                clear hr2 hc hlen hT a60 b62 b61
                have hcv3 : (convert 33 9 (.slice (some ⟨w3.heap.size, 0, none⟩) 2 2)).run Try.prog (w3.alloc (.cells #[.int .u8 (a.toNat : Int), .int .u8 (b.toNat : Int)] 5)).drew = .ok (.string ⟨#[a, b]⟩) (w3.alloc (.cells #[.int .u8 (a.toNat : Int), .int .u8 (b.toNat : Int)] 5)).drew := conv_two w3.drew a b
                go_wp2
                go_region_held (fun w' => w'.cell? ⟨b2, o2 + 1, none⟩ = some (.string ⟨#[a, b]⟩)) (first | exact k1 | exact k2 | go_keep) (fail)
                all_goals
                  go_wp2
                  go_ret
                  exact ⟨rfl, hB3⟩
              · have ga0 : ((a.toNat : Int) == 60) = true := by simp; omega
                have gb2 : ((b.toNat : Int) == 62) = false := by simp; omega
                have gb1 : ((b.toNat : Int) == 61) = false := by simp; omega
                have ga2 : ((a.toNat : Int) == 62) = false := by simp; omega
                have hT : two2 a b = false := by simp [two2]; omega
                rw [hT] at hlen hr2
                rw [if_neg (by simp)] at hlen hr2
                obtain rfl : n2 = 3 := hlen.symm
                clear hr2 hlen hT a60 b62 b61
                go_wp2
                go_quiet (fail)
                go_wp2
                go_ret
                exact ⟨rfl, below_drewN hB2 _⟩
          · by_cases a62 : a.toNat = 62
            · by_cases b61 : b.toNat = 61
              · have ga0 : ((a.toNat : Int) == 60) = false := by simp; omega
                have gb1 : ((b.toNat : Int) == 61) = true := by simp; omega
                have ga2 : ((a.toNat : Int) == 62) = true := by simp; omega
                have hT : two2 a b = true := by simp [two2]; omega
                rw [hT] at hlen hr2
                rw [if_pos rfl] at hlen hr2
                obtain rfl : n2 = 2 := hlen.symm
                obtain ⟨b2, o2, rfl, hc⟩ := hr2.cells (by omega)
                have k1 := (hc 0 (by omega)).2.1
                simp only [tth, List.getElem?_cons_zero, Option.getD_some] at k1
                rw [Nat.zero_mul, Nat.add_zero] at k1
                have hD : Below w3.heap.size w3 w3.drew := (Below.refl _ _).drew
                have k2 := cell_later (hD.alloc (Nat.le_refl _) (.cells #[.int .u8 (a.toNat : Int), .int .u8 (b.toNat : Int)] 5)) k1
                have hB3 := Below.on hB2 (hD.alloc (Nat.le_refl _) (.cells #[.int .u8 (a.toNat : Int), .int .u8 (b.toNat : Int)] 5))
                clear hr2 hc hlen hT a60 a62 b61
                have hcv3 : (convert 33 9 (.slice (some ⟨w3.heap.size, 0, none⟩) 2 2)).run Try.prog (w3.alloc (.cells #[.int .u8 (a.toNat : Int), .int .u8 (b.toNat : Int)] 5)).drew = .ok (.string ⟨#[a, b]⟩) (w3.alloc (.cells #[.int .u8 (a.toNat : Int), .int .u8 (b.toNat : Int)] 5)).drew := conv_two w3.drew a b
                go_wp2
                go_region_held (fun w' => w'.cell? ⟨b2, o2 + 1, none⟩ = some (.string ⟨#[a, b]⟩)) (first | exact k1 | exact k2 | go_keep) (fail)
                all_goals
                  go_wp2
                  go_ret
                  exact ⟨rfl, hB3⟩
              · have ga0 : ((a.toNat : Int) == 60) = false := by simp; omega
                have gb1 : ((b.toNat : Int) == 61) = false := by simp; omega
                have ga2 : ((a.toNat : Int) == 62) = true := by simp; omega
                have hT : two2 a b = false := by simp [two2]; omega
                rw [hT] at hlen hr2
                rw [if_neg (by simp)] at hlen hr2
                obtain rfl : n2 = 3 := hlen.symm
                clear hr2 hlen hT a60 a62 b61
                go_wp2
                go_quiet (fail)
                go_wp2
                go_ret
                exact ⟨rfl, below_drewN hB2 _⟩
            · have ga0 : ((a.toNat : Int) == 60) = false := by simp; omega
              have ga2 : ((a.toNat : Int) == 62) = false := by simp; omega
              have hT : two2 a b = false := by simp [two2]; omega
              rw [hT] at hlen hr2
              rw [if_neg (by simp)] at hlen hr2
              obtain rfl : n2 = 3 := hlen.symm
              clear hr2 hlen hT a60 a62
              go_wp2
              go_quiet (fail)
              go_wp2
              go_ret
              exact ⟨rfl, below_drewN hB2 _⟩

end Go.Proofs.Ytlnijapabhlbeaa
