import Derived.Test.YtfopfhlohihihaaGreatCap
namespace Go.Proofs.YtfopfhlohihihaaGreat
open Go.RowKit
set_option linter.unusedVariables false
set_option linter.unusedSimpArgs false
theorem got_list {p : UInt8 → Bool} {s : ByteArray} {A B : List UInt8} (h : bs s = A ++ B) : got p s A.length = (B[0]?).any p := by
 rw [got, h, List.getElem?_append_right (Nat.le_refl _), Nat.sub_self]
theorem got_list1 {p : UInt8 → Bool} {s : ByteArray} {A B : List UInt8} (h : bs s = A ++ B) : got p s (A.length + 1) = (B[1]?).any p := by
 rw [got, h, List.getElem?_append_right (by omega), show A.length + 1 - A.length = 1 from by omega]
theorem till_list {p : UInt8 → Bool} {s : ByteArray} {A B : List UInt8} (h : bs s = A ++ B) : till p s A.length = A.length + (B.takeWhile p).length := by
 rw [till, h, List.drop_left]
theorem size_list {s : ByteArray} {A B : List UInt8} (h : bs s = A ++ B) : s.size = A.length + B.length := by rw [← bs_length, h, List.length_append]
theorem extract_list {s : ByteArray} {A n r : List UInt8} (h : bs s = A ++ (n ++ r)) : s.extract A.length (A.length + n.length) = ⟨n.toArray⟩ := by
 apply ByteArray.ext
 apply Array.toList_inj.1
 have h' : s.data.toList = A ++ (n ++ r) := h
 rw [ByteArray.data_extract, Array.toList_extract, h']
 simp
theorem lx_congr {s : ByteArray} {k k' : Nat} (hw : wordW s k = wordW s k') {l : List Tk} {a e : Int} (h : Lx s k' l a e) : Lx s k l a e := by
 obtain ⟨n, hn⟩ := h.steps
 cases n with
 | zero => exact hn.elim
 | succ n =>
  refine ⟨n + 1, ?_⟩
  have hn' : LxS s (LxN s n) k' l a e := hn
  show LxS s (LxN s n) k l a e
  unfold LxS at hn' ⊢
  rw [hw]
  exact hn'
theorem lx_space {s : ByteArray} {A r : List UInt8} (h : bs s = A ++ 32 :: r) {l : List Tk} {a e : Int} (hx : Lx s (A.length + 1) l a e) : Lx s A.length l a e := by
 refine lx_congr ?_ hx
 unfold wordW
 rw [till_step (by rw [got_list h]; rfl)]
theorem lx_cons {s : ByteArray} {k n : Nat} {t : Tk} (hw : wordW s k = wrd t n) (h6 : t.1 ≠ 6) {l : List Tk} (hx : Lx s n l 0 0) : Lx s k (t :: l) 0 0 := by
 have := Lx.more k l (by rw [hw]; rfl) (by rw [hw]; exact h6) (by rw [hw]; exact hx)
 rw [hw] at this
 exact this
theorem word_ns {s : ByteArray} {A r : List UInt8} {c : UInt8} (h : bs s = A ++ c :: r) (hc : isB 32 c = false) : wordW s A.length = oneW s A.length := by
 unfold wordW
 rw [till_stop (by rw [got_list h]; exact hc), endW, if_neg (by have := size_list h; simp at this; omega)]
theorem lx_sign {s : ByteArray} {A r : List UInt8} {c : UInt8} (h : bs s = A ++ c :: r) (hc : isO c = true) {l : List Tk} (hx : Lx s (A.length + 1) l 0 0) : Lx s A.length ((5, ⟨#[c]⟩, 0, (A.length : Int)) :: l) 0 0 := by
 have tab : ∀ c : Fin 256, isO (UInt8.ofNat c) = true → isB 32 (UInt8.ofNat c) = false ∧ isL (UInt8.ofNat c) = false ∧ isDig (UInt8.ofNat c) = false ∧ isB 39 (UInt8.ofNat c) = false ∧ isB 60 (UInt8.ofNat c) = false ∧ isB 62 (UInt8.ofNat c) = false := by decide +kernel
 have hcc : UInt8.ofNat c.toNat = c := by simp
 obtain ⟨h1, h2, h3, h4, h5, h6⟩ := tab ⟨c.toNat, c.toNat_lt⟩ (by simpa using hc)
 simp only [hcc] at h1 h2 h3 h4 h5 h6
 refine lx_cons (n := A.length + 1) ?_ (by simp) hx
 have hsg : sgn s A.length = 1 := by
  rw [sgn, if_neg (by rw [got_list h]; simp [h5]), if_neg (by rw [got_list h]; simp [h6]), if_pos (by rw [got_list h]; simp [hc])]
 rw [word_ns h h1, oneW, if_neg (by rw [got_list h]; simp [h2]), if_neg (by rw [got_list h]; simp [h3]), if_neg (by rw [got_list h]; simp [h4]), sgnW, hsg, if_neg (by decide), show s.extract A.length (A.length + 1) = ⟨#[c]⟩ from extract_list (n := [c]) h]
theorem lx_name {s : ByteArray} {A n r : List UInt8} {c : UInt8} (h : bs s = A ++ (c :: n ++ r)) (hc : isL c = true) (hn : n.all isN = true) (hr : (r[0]?).any isN = false) (hl : n.length < 16) {l : List Tk} (hx : Lx s (A.length + (n.length + 1)) l 0 0) :
  Lx s A.length ((if isW ⟨(c :: n).toArray⟩ then 2 else 1, ⟨(c :: n).toArray⟩, 0, (A.length : Int)) :: l) 0 0 := by
 have h' : bs s = A ++ c :: (n ++ r) := by simpa using h
 have hsp : isB 32 c = false := by
  have tab : ∀ c : Fin 256, isL (UInt8.ofNat c) = true → isB 32 (UInt8.ofNat c) = false := by decide +kernel
  have := tab ⟨c.toNat, c.toNat_lt⟩ (by simpa using hc)
  simpa using this
 have ht : till isN s A.length = A.length + (n.length + 1) := by
  rw [till_list h]
  congr 1
  have hN : isN c = true := by rw [isN, hc]; rfl
  rw [List.takeWhile_append_of_pos (by
   intro x hx
   rcases List.mem_cons.1 hx with rfl | hx
   ·exact hN
   ·exact List.all_eq_true.1 hn x hx), List.length_append, List.length_cons]
  cases r with
  | nil => simp
  | cons x r =>
   have : isN x = false := by simpa using hr
   rw [List.takeWhile_cons, this]
   simp
 have he := extract_list (n := c :: n) h
 rw [List.length_cons] at he
 refine lx_cons (n := A.length + (n.length + 1)) ?_ (by simp only []; split <;> decide) hx
 rw [word_ns h' hsp, oneW, if_pos (by rw [got_list h']; simp [hc]), nameW, ht, if_neg (by omega), he]
theorem lx_fin {s : ByteArray} : Lx s s.size [(6, ⟨#[]⟩, 0, (s.size : Int))] 0 0 := by
 have hw : wordW s s.size = wrd (6, ⟨#[]⟩, 0, s.size) s.size := by
  unfold wordW
  rw [till_stop (got_end (Nat.le_refl _)), endW, if_pos rfl]
 have := Lx.fin (s := s) s.size (by rw [hw]; rfl) (by rw [hw]; rfl)
 rw [hw] at this
 exact this
theorem RowIs.at {Q : Nat → Prop} {w : World} {a : Option Addr} {n c : Nat} {l : List Tr} (h : RowIs eExpr Q w (.slice a n c) l) {k : Nat} (hk : k < l.length) : ∃ b o op p a' n' c', a = some ⟨b, o, none⟩ ∧ Ce w b (o + k * 7) op p (.slice a' n' c') ∧ Ex Q w l[k] (exV op p (.slice a' n' c')) := by
 obtain ⟨ao, n0, c0, hv, hl, _, _, hx⟩ := h
 cases hv
 obtain ⟨b, o, ha, _, hi⟩ := hx (by omega)
 obtain ⟨cs, ⟨op, p, a', n', c', rfl, hE⟩, _, hc⟩ := hi k hk
 refine ⟨b, o, op, p, a', n', c', ha, ?_, hE⟩
 exact ⟨hc 0 (show 0 < 7 by decide), hc 1 (show 1 < 7 by decide), hc 2 (show 2 < 7 by decide), hc 3 (show 3 < 7 by decide), hc 4 (show 4 < 7 by decide), hc 5 (show 5 < 7 by decide), hc 6 (show 6 < 7 by decide)⟩
end Go.Proofs.YtfopfhlohihihaaGreat
