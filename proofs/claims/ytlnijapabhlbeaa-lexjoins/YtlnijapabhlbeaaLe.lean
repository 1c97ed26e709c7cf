/- What Lex tells of digits, and of a name alone. -/
import Derived.Test.YtlnijapabhlbeaaLc
import Derived.Test.YtlnijapabhlbeaaN5
namespace Go.Proofs.Ytlnijapabhlbeaa
open Go.RowKit
set_option linter.unusedVariables false

theorem till_eq {p : UInt8 → Bool} {s : ByteArray} : ∀ (n : Nat) {j m : Nat}, m - j = n → j ≤ m → (∀ i, j ≤ i → i < m → got p s i = true) → got p s m = false → till p s j = m := by
  intro n
  induction n with
  | zero =>
    intro j m h hj h1 h2
    obtain rfl : j = m := by omega
    exact till_stop h2
  | succ n ih =>
    intro j m h hj h1 h2
    rw [till_step (h1 j (Nat.le_refl _) (by omega))]
    exact ih (by omega) (by omega) (fun i hi hm => h1 i (by omega) hm) h2
theorem got_of {p : UInt8 → Bool} {s : ByteArray} {l : List UInt8} (hl : bs s = l) (k : Nat) : got p s k = (l[k]?).any p := by rw [got, hl]
theorem got_all {p : UInt8 → Bool} {s : ByteArray} (h : (bs s).all p = true) {k : Nat} (hk : k < s.size) : got p s k = true := by
  rw [got_at hk]
  exact List.all_eq_true.1 h _ (List.mem_of_getElem? (bs_at s k hk))
theorem dig_not {c : UInt8} (h : isDig c = true) : isL c = false ∧ isB 32 c = false := by
  simp [isDig] at h
  simp [isL, isB]
  omega
theorem let_not {c : UInt8} (h : isL c = true) : isDig c = false ∧ isB 32 c = false := by
  simp [isL] at h
  simp [isDig, isB]
  omega
theorem got_imp {p q : UInt8 → Bool} (b : Bool) (h : ∀ c, p c = true → q c = b) {s : ByteArray} {k : Nat} (hg : got p s k = true) : got q s k = b := by
  have hk := got_lt hg
  rw [got_at hk] at hg ⊢
  exact h _ hg

theorem extract_all (s : ByteArray) : s.extract 0 s.size = s := by
  apply ByteArray.ext
  rw [ByteArray.data_extract]
  exact Array.extract_size
/-- At the end. -/
theorem word_end {s : ByteArray} : wordW s s.size = wrd (6, ⟨#[]⟩, 0, s.size) s.size := by
  rw [wordW, till_stop (got_end (Nat.le_refl _)), endW, if_pos rfl]
theorem lx_end (s : ByteArray) : Lx s s.size [(6, ⟨#[]⟩, 0, (s.size : Int))] 0 0 := by
  have h := Lx.fin (s := s) s.size (by rw [word_end]; rfl) (by rw [word_end]; rfl)
  rw [word_end] at h
  exact h
/-- A word alone. -/
theorem lx_one {s : ByteArray} {t : Tk} (h : wordW s 0 = wrd t s.size) (h6 : t.1 ≠ 6) (hs : s.size ≤ 400) : LexR s [t, (6, ⟨#[]⟩, 0, (s.size : Int))] 0 0 := by
  have h1 := Lx.more (s := s) 0 [(6, ⟨#[]⟩, 0, (s.size : Int))] (by rw [h]; rfl) (by rw [h]; exact h6) (by rw [h]; exact lx_end s)
  rw [h] at h1
  exact .inr ⟨hs, h1⟩
theorem lx_flt {s : ByteArray} {k : Nat} {e : Int} (h : wordW s 0 = flt k e) (he : e ≠ 0) (hs : s.size ≤ 400) : LexR s [] k e := by
  have h1 := Lx.bad (s := s) 0 (by rw [h]; exact he)
  rw [h] at h1
  exact .inr ⟨hs, h1⟩

theorem word_dig {s : ByteArray} (h0 : got isDig s 0 = true) : wordW s 0 = numW s 0 := by
  have hk := got_lt h0
  rw [wordW, till_stop (got_imp false (fun c h => (dig_not h).2) h0), endW, if_neg (by omega), oneW_num (got_imp false (fun c h => (dig_not h).1) h0) h0]
theorem dig_till {s : ByteArray} (h : (bs s).all isDig = true) : till isDig s 0 = s.size := till_eq _ rfl (Nat.zero_le _) (fun i _ hi => got_all h hi) (got_end (Nat.le_refl _))
theorem lex_dig {s : ByteArray} (h : (bs s).all isDig = true) (h0 : 0 < s.size) (hs : s.size ≤ 400) (hf : Fits (val (bs s))) : LexR s [(3, ⟨#[]⟩, (val (bs s) : Int), 0), (6, ⟨#[]⟩, 0, (s.size : Int))] 0 0 := by
  refine lx_one ?_ (by show (3 : Int) ≠ 6; omega) hs
  rw [word_dig (got_all h h0), numW, dig_till h, numV, extract_all, got_end (Nat.le_refl _), if_neg (by simp), if_pos hf]
  rfl
theorem lex_over {s : ByteArray} (h : (bs s).all isDig = true) (h0 : 0 < s.size) (hs : s.size ≤ 400) (hf : ¬ Fits (val (bs s))) : LexR s [] 0 8 := by
  refine lx_flt (k := 0) ?_ (by decide) hs
  rw [word_dig (got_all h h0), numW, dig_till h, numV, extract_all, got_end (Nat.le_refl _), if_neg (by simp), if_neg hf]
/-- A letter right behind. -/
theorem lex_let {s : ByteArray} {l : List UInt8} {c : UInt8} (hl : bs s = l ++ [c]) (h : l.all isDig = true) (h0 : 0 < l.length) (hs : s.size ≤ 400) (hc : isL c = true) : LexR s [] l.length 4 := by
  have hsz : s.size = l.length + 1 := by rw [← bs_length, hl]; simp
  have hd : ∀ i, i < l.length → got isDig s i = true := fun i hi => by
    rw [got_of hl, List.getElem?_append_left hi, List.getElem?_eq_getElem hi]
    exact List.all_eq_true.1 h _ (List.getElem_mem hi)
  have hL : got isL s l.length = true := by
    rw [got_of hl, List.getElem?_append_right (Nat.le_refl _), Nat.sub_self]
    exact hc
  have ht : till isDig s 0 = l.length := till_eq _ rfl (Nat.zero_le _) (fun i _ hi => hd i hi) (got_imp false (fun c h => (let_not h).1) hL)
  refine lx_flt ?_ (by decide) hs
  rw [word_dig (hd 0 h0), numW, ht, if_pos hL]

theorem isN_of {c : UInt8} (h : isL c = true) : isN c = true := by rw [isN, h]; rfl
theorem word_let {s : ByteArray} (h0 : got isL s 0 = true) : wordW s 0 = nameW s 0 := by
  have hk := got_lt h0
  rw [wordW, till_stop (got_imp false (fun c h => (let_not h).2) h0), endW, if_neg (by omega), oneW_name h0]
theorem name_till {s : ByteArray} (h : (bs s).all isN = true) : till isN s 0 = s.size := till_eq _ rfl (Nat.zero_le _) (fun i _ hi => got_all h hi) (got_end (Nat.le_refl _))
theorem lex_name {s : ByteArray} (h : (bs s).all isN = true) (h0 : got isL s 0 = true) (hs : s.size ≤ 16) : LexR s [(if isW s then 2 else 1, s, 0, 0), (6, ⟨#[]⟩, 0, (s.size : Int))] 0 0 := by
  refine lx_one ?_ (by show (if _ then (2 : Int) else 1) ≠ 6; split <;> omega) (by omega)
  rw [word_let h0, nameW, name_till h, extract_all, if_neg (by omega)]
  rfl
theorem lex_long {s : ByteArray} (h : (bs s).all isN = true) (h0 : got isL s 0 = true) (hs : 16 < s.size) (hs4 : s.size ≤ 400) : LexR s [] 0 7 := by
  refine lx_flt (k := 0) ?_ (by decide) hs4
  rw [word_let h0, nameW, name_till h, extract_all, if_pos (by omega)]

/-- Digits of a number. -/
theorem dec_isDig (u : Nat) : (Lib.decDigits u).all isDig = true := by
  have hd : ∀ k : Nat, k < 10 → isDig (UInt8.ofNat (48 + k)) = true := by decide
  induction u using Nat.strongRecOn with
  | _ u ih =>
    by_cases h : u < 10
    · rw [dec_one h]; simp [-UInt8.ofNat_add, hd u h]
    · rw [dec_more h, List.all_append, ih (u / 10) (by omega)]
      simp [-UInt8.ofNat_add, hd (u % 10) (by omega)]
theorem dec_val (u : Nat) : val (Lib.decDigits u) = u := by
  have hd : ∀ k : Nat, k < 10 → (UInt8.ofNat (48 + k)).toNat - 48 = k := by decide
  induction u using Nat.strongRecOn with
  | _ u ih =>
    by_cases h : u < 10
    · rw [dec_one h]
      have := hd u h
      simp [-UInt8.ofNat_add, -UInt8.toNat_ofNat', val, this]
    · rw [dec_more h, val_snoc, ih (u / 10) (by omega), hd (u % 10) (by omega)]
      omega
theorem bs_mk (l : List UInt8) : bs ⟨l.toArray⟩ = l := by simp [bs]
theorem val_nought (l : List UInt8) : val (48 :: l) = val l := by simp [val]
theorem fold_up : ∀ (l : List UInt8) (a b : Nat), a ≤ b → l.foldl (fun n x => n * 10 + (x.toNat - 48)) a ≤ l.foldl (fun n x => n * 10 + (x.toNat - 48)) b
  | [], a, b, h => h
  | x :: l, a, b, h => fold_up l _ _ (by show a * 10 + (x.toNat - 48) ≤ b * 10 + (x.toNat - 48); have := Nat.mul_le_mul_right 10 h; omega)
theorem val_ahead (x : UInt8) (l : List UInt8) : val l ≤ val (x :: l) := by
  rw [val, val, List.foldl_cons]
  exact fold_up l _ _ (Nat.zero_le _)
theorem val_over (u : Nat) (h : 4611686018427387904 ≤ u) : ¬ Fits (val (57 :: (Lib.decDigits u ++ [48, 48]))) := by
  have h1 := val_ahead 57 (Lib.decDigits u ++ [48, 48])
  have h2 : val (Lib.decDigits u ++ [48, 48]) = u * 10 * 10 := by
    rw [show Lib.decDigits u ++ [48, 48] = (Lib.decDigits u ++ [48]) ++ [48] from by simp, val_snoc, val_snoc, dec_val]
    simp
  unfold Fits
  omega

end Go.Proofs.Ytlnijapabhlbeaa
