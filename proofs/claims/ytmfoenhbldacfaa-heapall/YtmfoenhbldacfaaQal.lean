import Derived.Test.YtmfoenhbldacfaaQak
import Derived.Maps.AppendAt
import Derived.Deep.AppendSrc
/- Gaps in memory: how they stand to each other, where one stands. -/
namespace Go.Proofs.Ytmfoenhbldacfaa
open Go.RowKit
set_option linter.unusedVariables false
set_option linter.unusedSimpArgs false

set_option maxRecDepth 100000 in
theorem cmpInt_any (a b : Int) (w : World) : Calls Try.prog 71 #[.int .i64 a, .int .i64 b] w fun e w' => e = .returned (.int .i64 (cmpI a b)) ∧ w' = w := by
  have hn1 : (a != a) = false := by simp
  have hn2 : (b != b) = false := by simp
  rcases (by omega : a < b ∨ a = b ∨ b < a) with h | h | h
  · rw [cmpI_lt h]
    have h1 : decide (a < b) = true := by simpa using h
    go_enter Try.func71, Try.ntmps71
    go_wp2
    go_ret
    exact ⟨rfl, rfl⟩
  · subst h
    rw [cmpI_eq]
    have h1 : decide (a < a) = false := by simp
    go_enter Try.func71, Try.ntmps71
    go_wp2
    go_ret
    exact ⟨rfl, rfl⟩
  · rw [cmpI_gt h]
    have h1 : decide (a < b) = false := by simp; omega
    have h2 : decide (b < a) = true := by simpa using h
    go_enter Try.func71, Try.ntmps71
    go_wp2
    go_ret
    exact ⟨rfl, rfl⟩
set_option maxRecDepth 100000 in
theorem orTwo_any (a b : Int) (g : Nat) (w : World) (h0 : w.cell? ⟨g, 0, none⟩ = some (.int .i64 a)) (h1 : w.cell? ⟨g, 1, none⟩ = some (.int .i64 b)) :
    Calls Try.prog 70 #[.slice (some ⟨g, 0, none⟩) 2 2] w fun e w' => e = .returned (.int .i64 (if a ≠ 0 then a else b)) ∧ w' = w := by
  by_cases ha : a = 0
  · subst ha
    rw [if_neg (by simp)]
    by_cases hb : b = 0
    · subst hb
      go_enter Try.func70, Try.ntmps70
      go_wp2
      refine wp_loop_rounds 3 ?_
      rw [rounds_succ]
      go_wp2
      rw [rounds_succ]
      go_wp2
      rw [rounds_succ]
      go_wp2
      go_ret
      exact ⟨rfl, rfl⟩
    · have g1 : (b != 0) = true := by simpa using hb
      go_enter Try.func70, Try.ntmps70
      go_wp2
      refine wp_loop_rounds 2 ?_
      rw [rounds_succ]
      go_wp2
      rw [rounds_succ]
      go_wp2
      go_ret
      exact ⟨rfl, rfl⟩
  · rw [if_pos ha]
    have g1 : (a != 0) = true := by simpa using ha
    go_enter Try.func70, Try.ntmps70
    go_wp2
    refine wp_loop_rounds 1 ?_
    rw [rounds_succ]
    go_wp2
    go_ret
    exact ⟨rfl, rfl⟩

theorem orG_any (a b : Int × Int) (g : Nat) (w : World) (h0 : w.cell? ⟨g, 0, none⟩ = some (.int .i64 (cmpI a.1 b.1))) (h1 : w.cell? ⟨g, 1, none⟩ = some (.int .i64 (cmpI a.2 b.2))) :
    Calls Try.prog 70 #[.slice (some ⟨g, 0, none⟩) 2 2] w fun e w' => e = .returned (.int .i64 (cmpG a b)) ∧ w' = w := orTwo_any _ _ g w h0 h1
theorem bcl {w w' : World} {a : Addr} {v : Value} (k : Below w.heap.size w w') (h : w.cell? a = some v) : w'.cell? a = some v := (k.cell (World.block_lt_of_cell? _ _ h)).trans h
/-- A gap's cells. -/
def gcl (g : Int × Int) : List Value := [.int .i64 g.1, .int .i64 g.2]
set_option maxRecDepth 100000 in
set_option maxHeartbeats 1000000 in
theorem compareG_any (a b : Int × Int) (w : World) :
    Calls Try.prog 59 #[.agg #[.int .i64 a.1, .int .i64 a.2], .agg #[.int .i64 b.1, .int .i64 b.2]] w fun e w' => e = .returned (.int .i64 (cmpG a b)) ∧ Below w.heap.size w w' := by
  have HI : Hid (∀ (x y : Int) w, _) := fun x y w => cmpInt_any x y w
  have HO : Hid (∀ g w h0 h1, _) := fun g w h0 h1 => orG_any a b g w h0 h1
  obtain ⟨a1, a2⟩ := a
  obtain ⟨b1, b2⟩ := b
  simp only at HO ⊢
  have hb : Below w.heap.size w ((w.alloc (.cells #[.int .i64 a1, .int .i64 a2] 66)).alloc (.cells #[.int .i64 b1, .int .i64 b2] 66)) := ((Below.refl _ _).alloc (Nat.le_refl _) _).alloc (by simp) _
  generalize cmpG (a1, a2) (b1, b2) = R at *
  go_enter Try.func59, Try.ntmps59
  go_wp2_with fail
  have c0 : ((w.alloc (.cells #[.int .i64 a1, .int .i64 a2] 66)).alloc (.cells #[.int .i64 b1, .int .i64 b2] 66)).cell? ⟨w.heap.size, 0, none⟩ = some (.int .i64 a1) := by simp [go_sem]
  have c1 : ((w.alloc (.cells #[.int .i64 a1, .int .i64 a2] 66)).alloc (.cells #[.int .i64 b1, .int .i64 b2] 66)).cell? ⟨w.heap.size, 1, none⟩ = some (.int .i64 a2) := by simp [go_sem]
  have d0 : ((w.alloc (.cells #[.int .i64 a1, .int .i64 a2] 66)).alloc (.cells #[.int .i64 b1, .int .i64 b2] 66)).cell? ⟨w.heap.size + 1, 0, none⟩ = some (.int .i64 b1) := by simp [go_sem]
  have d1 : ((w.alloc (.cells #[.int .i64 a1, .int .i64 a2] 66)).alloc (.cells #[.int .i64 b1, .int .i64 b2] 66)).cell? ⟨w.heap.size + 1, 1, none⟩ = some (.int .i64 b2) := by simp [go_sem]
  have hz : w.heap.size ≤ ((w.alloc (.cells #[.int .i64 a1, .int .i64 a2] 66)).alloc (.cells #[.int .i64 b1, .int .i64 b2] 66)).heap.size := hb.size
  generalize (w.alloc (.cells #[.int .i64 a1, .int .i64 a2] 66)).alloc (.cells #[.int .i64 b1, .int .i64 b2] 66) = W at *
  go_region_held3 (fun w' => w'.cell? ⟨w.heap.size, 0, none⟩ = some (.int .i64 a1) ∧ w'.cell? ⟨w.heap.size, 1, none⟩ = some (.int .i64 a2) ∧ w'.cell? ⟨w.heap.size + 1, 0, none⟩ = some (.int .i64 b1) ∧ w'.cell? ⟨w.heap.size + 1, 1, none⟩ = some (.int .i64 b2)) (go_keep)
    (first
    | (go_at_call 71; refine Calls.mono (HI.out _ _ _) ?_; rintro e y1 ⟨rfl, rfl⟩)
    | (go_at_call 70; refine Calls.mono (HO.out _ _ (by simp [go_sem]) (by simp [go_sem])) ?_; rintro e y4 ⟨rfl, rfl⟩))
  all_goals
    go_wp2
    go_ret
    exact ⟨rfl, by first | exact (hb.drew.alloc hz _) | exact (hb.alloc hz _).drew⟩

/-! ### A row of the call's own, thing by thing -/
def OwnR (ty k B : Nat) (w : World) (v : Value) (css : List (List Value)) : Prop := (∀ cs ∈ css, cs.length = k) ∧ w.ownsRow B ty k v css.length css.flatten
theorem flat_at {k : Nat} : ∀ {css : List (List Value)}, (∀ cs ∈ css, cs.length = k) → ∀ {i j : Nat} (hi : i < css.length) (hj : j < k), css.flatten[i * k + j]? = (css[i])[j]? := by
  intro css
  induction css with
  | nil => intro _ i j hi; simp at hi
  | cons c l ih =>
    intro h i j hi hj
    have hc := h c (by simp)
    cases i with
    | zero => rw [List.flatten_cons, List.getElem?_append_left (by omega)]; simp
    | succ i =>
      rw [List.flatten_cons, List.getElem?_append_right (by rw [hc, Nat.succ_mul]; omega), show (i + 1) * k + j - c.length = i * k + j from by rw [hc, Nat.succ_mul]; omega]
      exact ih (fun x hx => h x (by simp [hx])) (by simpa using hi) hj
theorem flat_len {k : Nat} : ∀ {l : List (List Value)}, (∀ cs ∈ l, cs.length = k) → l.flatten.length = l.length * k
  | [], _ => by simp
  | a :: l, h => by
    rw [List.flatten_cons, List.length_append, flat_len fun x hx => h x (by simp [hx]), h a (by simp), List.length_cons, Nat.succ_mul]
    omega
/-- The slice v is a list of gaps of the call's own. -/
def OwnG (B : Nat) (w : World) (v : Value) (F : List (Int × Int)) : Prop := OwnR 66 2 B w v (F.map gcl)
theorem gcl_len (F : List (Int × Int)) : ∀ cs ∈ F.map gcl, cs.length = 2 := by
  intro cs h
  obtain ⟨g, _, rfl⟩ := List.mem_map.1 h
  rfl
theorem gcl_one (F : List (Int × Int)) : ∀ u ∈ (F.map gcl).flatten, u.oneCell' = true := by
  intro u h
  obtain ⟨cs, h1, h2⟩ := List.mem_flatten.1 h
  obtain ⟨z, _, rfl⟩ := List.mem_map.1 h1
  rcases List.mem_cons.1 h2 with rfl | h2
  · rfl
  · rw [List.mem_singleton] at h2; subst h2; rfl
theorem OwnG.nil (B : Nat) (w : World) : OwnG B w (.slice none 0 0) [] := ⟨by simp, World.ownsRow_nil w B 66 2⟩
/-- What it comes to. -/
theorem OwnG.parts {B : Nat} {w : World} {v : Value} {F : List (Int × Int)} (h : OwnG B w v F) :
    (v = .slice none 0 0 ∧ F = []) ∨ ∃ g cap cur, v = .slice (some ⟨g, 0, none⟩) F.length cap ∧ B ≤ g ∧ w.heap[g]? = some (.cells cur 66 (0, 0)) ∧ F.length ≤ cap ∧ cap ≤ maxLen ∧ cur.size = cap * 2 ∧ cur.toList.take (F.length * 2) = (F.map gcl).flatten := by
  rcases h.2.2 with ⟨h1, h2⟩ | ⟨g, cap, cur, h1, h2, h3, h4, h5, h6, h7⟩
  · exact .inl ⟨h1, List.eq_nil_of_length_eq_zero (by simpa using h2)⟩
  · rw [List.length_map] at h1 h4 h7
    exact .inr ⟨g, cap, cur, h1, h2, h3, h4, h5, by omega, h7⟩
theorem OwnG.mk {B : Nat} {w : World} {F : List (Int × Int)} {g cap : Nat} {cur : Array Value} (h2 : B ≤ g) (h3 : w.heap[g]? = some (.cells cur 66 (0, 0))) (h4 : F.length ≤ cap) (h5 : cap ≤ maxLen) (h6 : cur.size = cap * 2) (h7 : cur.toList.take (F.length * 2) = (F.map gcl).flatten) : OwnG B w (.slice (some ⟨g, 0, none⟩) F.length cap) F := by
  refine ⟨gcl_len F, by rw [flat_len (gcl_len F)], .inr ⟨g, cap, cur, by rw [List.length_map], h2, h3, by rw [List.length_map]; exact h4, h5, by omega, by rw [List.length_map]; exact h7⟩⟩
theorem OwnG.keep {B : Nat} {w w' : World} {v : Value} {F : List (Int × Int)} (h : OwnG B w v F) (k : ∀ b A, B ≤ b → w.heap[b]? = some (.cells A 66 (0, 0)) → w'.heap[b]? = w.heap[b]?) : OwnG B w' v F := by
  rcases h.parts with ⟨rfl, rfl⟩ | ⟨g, cap, cur, rfl, h2, h3, h4, h5, h6, h7⟩
  · exact OwnG.nil B w'
  · exact OwnG.mk h2 (by rw [k g _ h2 h3]; exact h3) h4 h5 h6 h7
theorem OwnG.later {B : Nat} {w w' : World} {v : Value} {F : List (Int × Int)} (h : OwnG B w v F) (k : Below w.heap.size w w') : OwnG B w' v F :=
  h.keep fun b A _ h3 => k.block b (Array.getElem?_eq_some_iff.1 h3).1
theorem OwnG.cells {B : Nat} {w : World} {v : Value} {F : List (Int × Int)} (h : OwnG B w v F) : ∃ ao c, v = .slice ao F.length c ∧ F.length ≤ c ∧ c ≤ 9223372036854775807 ∧ (0 < F.length → ∃ g, ao = some ⟨g, 0, none⟩ ∧ ∀ i (hi : i < F.length), w.cell? ⟨g, i * 2, none⟩ = some (.int .i64 F[i].1) ∧ w.cell? ⟨g, i * 2 + 1, none⟩ = some (.int .i64 F[i].2)) := by
  have hp := h
  rcases h.parts with ⟨rfl, rfl⟩ | ⟨g, cap, cur, rfl, h2, h3, h4, h5, h6, h7⟩
  · exact ⟨none, 0, rfl, Nat.le_refl _, by omega, fun h => absurd h (by simp)⟩
  · refine ⟨_, cap, rfl, h4, by simpa [maxLen] using h5, fun _ => ⟨g, rfl, fun i hi => ?_⟩⟩
    have e : ∀ j, j < 2 → w.cell? ⟨g, i * 2 + j, none⟩ = (gcl F[i])[j]? := fun j hj => by
      rw [cell_of_row _ _ _ _ _ _ h3]
      have := flat_at (gcl_len F) (i := i) (j := j) (by simpa using hi) hj
      rw [List.getElem_map] at this
      rw [← this, ← h7, List.getElem?_take, if_pos (by omega), Array.getElem?_toList]
    exact ⟨e 0 (by omega), e 1 (by omega)⟩

set_option maxRecDepth 100000 in
set_option maxHeartbeats 2000000 in
theorem search_any {B : Nat} {w : World} {ao : Option Addr} {n c : Nat} {F : List (Int × Int)} (h : OwnG B w (.slice ao n c) F) (hs : F.Pairwise glt) (hl : F.length ≤ 1000) (x y : Int) :
    Calls Try.prog 58 #[.slice ao n c, .agg #[.int .i64 x, .int .i64 y], .func (.func 59) #[] #[]] w fun e w' => e = .returned (.tuple #[.int .i64 (lb F (x, y) : Int), .bool (decide (inG F (x, y)))]) ∧ Below w.heap.size w w' := by
  have HC : Hid (∀ (a : Int × Int) w, _) := fun a w => compareG_any a (x, y) w
  obtain ⟨ao', c', e', hnc, hc, hx⟩ := h.cells
  cases e'
  have hle := lb_le F (x, y)
  have HL : Hid (∀ i (hi : i < F.length), i < lb F (x, y) → glt F[i] (x, y)) := fun i hi k => lb_lt hi k
  have HG : Hid (∀ i (hi : i < F.length), lb F (x, y) ≤ i → ¬ glt F[i] (x, y)) := fun i hi k => lb_ge hi hs k
  obtain ⟨I, hI⟩ : ∃ I, decide (inG F (x, y)) = I := ⟨_, rfl⟩
  obtain ⟨b, hb⟩ : ∃ b, lb F (x, y) = b := ⟨_, rfl⟩
  rw [hI]
  rw [hb] at HL HG hle ⊢
  replace hI : Hid _ := hI
  replace hb : Hid _ := hb
  go_enter Try.func58, Try.ntmps58
  go_wp2_with fail
  have k0 : (w.alloc (.cells #[.int .i64 x, .int .i64 y] 66)).cell? ⟨w.heap.size, 0, none⟩ = some (.int .i64 x) := by simp [go_sem]
  have k1 : (w.alloc (.cells #[.int .i64 x, .int .i64 y] 66)).cell? ⟨w.heap.size, 1, none⟩ = some (.int .i64 y) := by simp [go_sem]
  have hW : Below w.heap.size w (w.alloc (.cells #[.int .i64 x, .int .i64 y] 66)) := (Below.refl _ _).alloc (Nat.le_refl _) _
  have hq : w.heap.size < (w.alloc (.cells #[.int .i64 x, .int .i64 y] 66)).heap.size := by simp
  obtain ⟨q, hqe⟩ : ∃ q, w.heap.size = q := ⟨_, rfl⟩
  rw [hqe] at k0 k1 hW hq ⊢
  have hF : Hid (∀ w', Below w.heap.size w w' → OwnG B w' (.slice ao F.length c) F) := fun w' hb => h.later hb
  rw [hqe] at hF
  generalize w.alloc (.cells #[.int .i64 x, .int .i64 y] 66) = W at *
  clear h hx
  go_loopw [9, 10, 11] (fun v9 v10 _ wr => ∃ i j : Nat, i ≤ b ∧ b ≤ j ∧ j ≤ F.length ∧ v9 = .int .i64 (i : Int) ∧ v10 = .int .i64 (j : Int) ∧ Below q w wr ∧ wr.cell? ⟨q, 0, none⟩ = some (.int .i64 x) ∧ wr.cell? ⟨q, 1, none⟩ = some (.int .i64 y)) (fun v9 v10 _ _ => (intOf v10).toNat - (intOf v9).toNat)
  case atStart => exact ⟨0, F.length, Nat.zero_le _, hle, Nat.le_refl _, rfl, rfl, hW, k0, k1⟩
  case round =>
    obtain ⟨i, j, hi, hj, hn, rfl, rfl, hB, c0, c1⟩ := hrel
    clear k0 k1 hW
    by_cases hlt : i < j
    · have g1 : decide ((i : Int) < (j : Int)) = true := by simpa using hlt
      go_upto_region 5 with fail
      obtain ⟨m, hmi, hm1, hm2⟩ : ∃ m : Nat, ((i : Int) + (j : Int)) / 2 = (m : Int) ∧ i ≤ m ∧ m < j := ⟨(i + j) / 2, by omega, by omega, by omega⟩
      have hmF : m < F.length := by omega
      rw [hmi]
      clear hmi
      obtain ⟨_, _, e', _, _, hx⟩ := (hF.out wr hB).cells
      cases e'
      obtain ⟨g, rfl, hy⟩ := hx (by omega)
      obtain ⟨d0, d1⟩ := hy m hmF
      have hmn : (m : Int) < (F.length : Int) := by omega
      have HCm := HC.out F[m]
      have HB2 : Hid (∀ w', Below wr.heap.size wr w' → Below q w w') := fun w' k => hB.trans (k.mono (by have := hB.size; omega))
      obtain ⟨u, hu⟩ : ∃ u, F[m] = u := ⟨_, rfl⟩
      rw [hu] at d0 d1 HCm
      replace hu : Hid _ := hu
      obtain ⟨u1, u2⟩ := u
      simp only at d0 d1 HCm
      replace HCm : Hid _ := HCm
      obtain ⟨C, hC⟩ : ∃ C, cmpG (u1, u2) (x, y) = C := ⟨_, rfl⟩
      rw [hC] at HCm
      have hC2 : Below wr.heap.size wr wr.drew := (Below.refl _ _).drew
      have HK : Hid (∀ w', Below wr.heap.size wr w' → w'.cell? ⟨g, m * 2, none⟩ = some (.int .i64 u1) ∧ w'.cell? ⟨g, m * 2 + 1, none⟩ = some (.int .i64 u2) ∧ w'.cell? ⟨q, 0, none⟩ = some (.int .i64 x) ∧ w'.cell? ⟨q, 1, none⟩ = some (.int .i64 y)) := fun w' k => ⟨bcl k d0, bcl k d1, bcl k c0, bcl k c1⟩
      replace hC : Hid _ := hC
      clear hx hy
      have hgt : (C < 0 → m + 1 ≤ b) ∧ (¬ C < 0 → b ≤ m) := by
        have e := hC.out
        subst e
        constructor
        · intro hc
          rw [cmpG_neg] at hc
          rcases Nat.lt_or_ge m b with k | k
          · exact k
          · have := HG.out m (by omega) k
            rw [hu.out] at this
            exact absurd hc this
        · intro hc
          rw [cmpG_neg] at hc
          rcases Nat.lt_or_ge m b with k | k
          · have := HL.out m (by omega) k
            rw [hu.out] at this
            exact absurd this hc
          · exact k
      obtain ⟨hgt1, hgt2⟩ := hgt
      have hlast : Hid ((C < 0 → m + 1 ≤ b ∧ j - (m + 1) < j - i) ∧ (¬ C < 0 → b ≤ m ∧ m - i < j - i ∧ m ≤ F.length)) := ⟨fun h => ⟨hgt1 h, by omega⟩, fun h => ⟨hgt2 h, by omega⟩⟩
      clear hgt1 hgt2 hm1 hm2 hlt g1
      go_region_held3 (fun w' => w'.cell? ⟨g, m * 2, none⟩ = some (.int .i64 u1) ∧ w'.cell? ⟨g, m * 2 + 1, none⟩ = some (.int .i64 u2) ∧ w'.cell? ⟨q, 0, none⟩ = some (.int .i64 x) ∧ w'.cell? ⟨q, 1, none⟩ = some (.int .i64 y)) (exact HK.out _ hC2)
        (first | (go_at_call 59; refine Calls.mono (HCm.out _) ?_; rintro e y1 ⟨rfl, hb1⟩; replace hC2 := bthen hC2 hb1))
      all_goals
        obtain ⟨h1, h2⟩ := hlast.out
        by_cases hc : C < 0
        · obtain ⟨hq1, hq2⟩ := h1 (by omega)
          have g2 : decide (C < 0) = true := by simpa using hc
          go_wp2
          go_roundw
          case rel => exact ⟨m + 1, j, hq1, hj, hn, by go_num, rfl, HB2.out _ hC2, (HK.out _ hC2).2.2.1, (HK.out _ hC2).2.2.2⟩
          case measure => simp [intOf]; omega
        · obtain ⟨hq1, hq2, hq3⟩ := h2 (by omega)
          have g2 : decide (C < 0) = false := by simpa using hc
          go_wp2
          go_roundw
          case rel => exact ⟨i, m, hi, hq1, hq3, rfl, rfl, HB2.out _ hC2, (HK.out _ hC2).2.2.1, (HK.out _ hC2).2.2.2⟩
          case measure => simp [intOf]; omega
    · have g1 : decide ((i : Int) < (j : Int)) = false := by simpa using hlt
      obtain rfl : b = i := by omega
      by_cases hbn : b < F.length
      · have g3 : decide ((b : Int) < (F.length : Int)) = true := by simpa using hbn
        obtain ⟨_, _, e', _, _, hx⟩ := (hF.out wr hB).cells
        cases e'
        obtain ⟨g, rfl, hy⟩ := hx (by omega)
        obtain ⟨d0, d1⟩ := hy b hbn
        have HCm := HC.out F[b]
        have HB2 : Hid (∀ w', Below wr.heap.size wr w' → Below q w w') := fun w' k => hB.trans (k.mono (by have := hB.size; omega))
        obtain ⟨u, hu⟩ : ∃ u, F[b] = u := ⟨_, rfl⟩
        rw [hu] at d0 d1 HCm
        have hI2 : I = (cmpG u (x, y) == 0) := by
          have e1 := hI.out
          rw [← e1, Bool.eq_iff_iff, decide_eq_true_eq, beq_iff_eq, cmpG_zero]
          unfold inG
          rw [hb.out, List.getElem?_eq_getElem hbn, hu, Option.some.injEq]
        replace hu : Hid _ := hu
        obtain ⟨u1, u2⟩ := u
        simp only at d0 d1 HCm hI2
        obtain ⟨C, hC⟩ : ∃ C, cmpG (u1, u2) (x, y) = C := ⟨_, rfl⟩
        rw [hC] at HCm hI2
        replace HCm : Hid _ := HCm
        have hbn' : (b : Int) < (F.length : Int) := by omega
        have hC2 : Below wr.heap.size wr wr.drew := (Below.refl _ _).drew
        have HK : Hid (∀ w', Below wr.heap.size wr w' → w'.cell? ⟨g, b * 2, none⟩ = some (.int .i64 u1) ∧ w'.cell? ⟨g, b * 2 + 1, none⟩ = some (.int .i64 u2) ∧ w'.cell? ⟨q, 0, none⟩ = some (.int .i64 x) ∧ w'.cell? ⟨q, 1, none⟩ = some (.int .i64 y)) := fun w' k => ⟨bcl k d0, bcl k d1, bcl k c0, bcl k c1⟩
        replace hC : Hid _ := hC
        clear hx hy hI
        subst hI2
        go_upto_region 8 with fail
        go_region_held3 (fun w' => w'.cell? ⟨g, b * 2, none⟩ = some (.int .i64 u1) ∧ w'.cell? ⟨g, b * 2 + 1, none⟩ = some (.int .i64 u2) ∧ w'.cell? ⟨q, 0, none⟩ = some (.int .i64 x) ∧ w'.cell? ⟨q, 1, none⟩ = some (.int .i64 y)) (exact HK.out _ hC2)
          (first | (go_at_call 59; refine Calls.mono (HCm.out _) ?_; rintro e y1 ⟨rfl, hb1⟩; replace hC2 := bthen hC2 hb1))
        all_goals
          go_wp2
          go_ret2
          exact ⟨rfl, by rw [hqe]; exact HB2.out _ hC2⟩
      · have g3 : decide ((b : Int) < (F.length : Int)) = false := by simp; omega
        have hI2 : I = false := by
          rw [← hI.out]
          refine decide_eq_false ?_
          unfold inG
          rw [hb.out, List.getElem?_eq_none (by omega)]
          simp
        subst hI2
        go_upto_region 8 with fail
        go_region
        all_goals
          (try go_wp2)
          go_ret2
          exact ⟨rfl, by rw [hqe]; exact hB.drew⟩

end Go.Proofs.Ytmfoenhbldacfaa
