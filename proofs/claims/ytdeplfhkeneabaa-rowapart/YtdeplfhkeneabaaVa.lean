/- The walk of value.Take. -/
import Derived.Test.YtdeplfhkeneabaaV9
namespace Go.Proofs.Ytdeplfhkeneabaa
open Go.RowKit
set_option linter.unusedVariables false

/-- What is told of bytes. -/
def tkR (b : List Int) : Value := tkA (tkK b) (tkI b) (tkT b) (tkN b) (tkE b)

theorem tkR_bad {b : List Int} {e : Int} (h : tkE b = e) (h0 : e ≠ 0) : tkR b = tkA 0 0 [] 0 e := by
  rw [tkR, tkK, tkI, tkT, tkN, h, if_neg h0, if_neg (fun k => h0 k.1), if_neg (fun k => h0 k.1), if_neg h0]
theorem tkR_nil : tkR [] = tkA 0 0 [] 0 2 := tkR_bad rfl (by omega)
theorem tkR_one (r : List Int) : tkR (1 :: r) = if r.length < 8 then tkA 0 0 [] 0 2 else tkA 1 (num (r.take 8) - 9223372036854775808) [] 9 0 := by
  have e0 : nth (1 :: r) 0 = 1 := rfl
  split
  · rename_i h
    exact tkR_bad (by rw [tkE, if_pos rfl, if_pos h]) (by omega)
  · rename_i h
    have e : tkE (1 :: r) = 0 := by rw [tkE, if_pos rfl, if_neg h]
    rw [tkR, tkK, tkI, tkT, tkN, e, e0, if_pos rfl, if_pos ⟨rfl, rfl⟩, if_neg (by omega), if_pos rfl, if_pos rfl]
    rfl
theorem tkR_two (r : List Int) : tkR (2 :: r) = txA r := by
  have e0 : nth (2 :: r) 0 = 2 := rfl
  have e : tkE (2 :: r) = scanE 0 r := by rw [tkE, if_neg (by omega), if_pos rfl]
  rw [txA]
  split
  · rename_i h
    rw [h] at e
    rw [tkR, tkK, tkI, tkT, tkN, e, e0, if_pos rfl, if_neg (by omega), if_pos ⟨rfl, by omega⟩, if_pos rfl, if_neg (by omega)]
    rfl
  · rename_i h
    exact tkR_bad e h
theorem tkR_else {c : Int} (r : List Int) (h1 : c ≠ 1) (h2 : c ≠ 2) : tkR (c :: r) = tkA 0 0 [] 0 3 := tkR_bad (by rw [tkE, if_neg h1, if_neg h2]) (by omega)

theorem int_two (r : List Int) : ∃ k i m e : Int, ∃ s : ByteArray, (if r.length < 8 then tkA 0 0 [] 0 2 else tkA 1 (num (r.take 8) - 9223372036854775808) [] 9 0) = .tuple #[.agg #[.int .i64 k, .int .i64 i, .string s], .int .i64 m, .int .i64 e] := by
  split <;> exact ⟨_, _, _, _, _, rfl⟩
theorem txA_two (r : List Int) : ∃ k i m e : Int, ∃ s : ByteArray, txA r = .tuple #[.agg #[.int .i64 k, .int .i64 i, .string s], .int .i64 m, .int .i64 e] := by
  unfold txA
  split <;> exact ⟨_, _, _, _, _, rfl⟩

/-- The block of the result, laid and kept. -/
theorem below_res {w w1 : World} {o : Obj} (hb1 : Below (w.alloc o).heap.size (w.alloc o) w1) : Below w.heap.size w w1 := ((Below.refl w.heap.size w).alloc (Nat.le_refl _) _).trans (hb1.mono (by simp))

set_option maxRecDepth 100000 in
set_option maxHeartbeats 1000000 in
theorem take_any (ao : Option Addr) (n c : Nat) (bs : List Int) (w : World) (h : Rd .u8 w ao n c bs) (hu : U8 bs) :
    Calls Try.prog 20 #[.slice ao n c] w fun e w' => e = .returned (tkR bs) ∧ Below w.heap.size w w' := by
  have hlen := h.len
  have hcap := h.cap
  have hmax := h.max
  have hb0 : ∀ x y z, Below w.heap.size w (w.alloc (.cells #[x, y, z] 35)) := fun x y z => (Below.refl _ _).alloc (Nat.le_refl _) _
  cases bs with
  | nil =>
    obtain rfl : n = 0 := by simpa using hlen.symm
    rw [tkR_nil]
    go_enter Try.func20, Try.ntmps20
    go_wp2
    refine bodyPost_ret (v := tkA 0 0 [] 0 2) (by simp [results, Try.results20, tkA, strOfNums, go_sem]) rfl ⟨rfl, hb0 _ _ _⟩
  | cons x r =>
    obtain ⟨q, rfl⟩ : ∃ q, n = q + 1 := ⟨r.length, by simpa using hlen.symm⟩
    obtain ⟨b, o, rfl, hc⟩ := h.cells (by omega)
    have hc0 := hc 0 (by omega)
    rw [nth_zero, Nat.add_zero] at hc0
    replace hc0 := cell_later (hb0 (.int .i64 0) (.int .i64 0) (.string ⟨#[]⟩)) hc0
    have hur : U8 r := fun z hz => hu z (by simp [hz])
    clear hc
    by_cases h1 : x = 1
    · subst h1
      have HT := takeInt_any (some ⟨b, o, none⟩) (q + 1) c r _ (h.later (hb0 (.int .i64 0) (.int .i64 0) (.string ⟨#[]⟩))) hur
      rw [tkR_one]
      obtain ⟨k, i, m, e, s, hk⟩ := int_two r
      rw [hk] at HT ⊢
      replace HT : Hid _ := HT
      clear hk h hu hur
      obtain ⟨c0, c1, c2⟩ := box3 w (.int .i64 0) (.int .i64 0) (.string ⟨#[]⟩) 35
      go_enter Try.func20, Try.ntmps20
      go_wp2_with fail
      refine Calls.mono HT.out ?_
      rintro e w1 ⟨rfl, hb1⟩
      have hB := below_res hb1
      replace c0 := cell_later hb1 c0
      replace c1 := cell_later hb1 c1
      replace c2 := cell_later hb1 c2
      have f0 : w1.frozen? ⟨w.heap.size, 0, none⟩ = false := by rw [World.frozen?_of_block (hb1.block w.heap.size (by simp))]; simp [go_sem]
      have f1 : w1.frozen? ⟨w.heap.size, 1, none⟩ = false := by rw [World.frozen?_of_block (hb1.block w.heap.size (by simp))]; simp [go_sem]
      have f2 : w1.frozen? ⟨w.heap.size, 2, none⟩ = false := by rw [World.frozen?_of_block (hb1.block w.heap.size (by simp))]; simp [go_sem]
      clear HT hc0
      go_wp2
      refine bodyPost_ret (v := .tuple #[.agg #[.int .i64 k, .int .i64 i, .string s], .int .i64 m, .int .i64 e]) (by simp [results, Try.results20, go_sem, c0, c1, c2]) rfl ⟨rfl, ((hB.setCell (Nat.le_refl _) _).setCell (Nat.le_refl _) _).setCell (Nat.le_refl _) _⟩
    by_cases h2 : x = 2
    · subst h2
      have HT := takeText_any (some ⟨b, o, none⟩) (q + 1) c r _ (h.later (hb0 (.int .i64 0) (.int .i64 0) (.string ⟨#[]⟩)))
      rw [tkR_two]
      obtain ⟨k, i, m, e, s, hk⟩ := txA_two r
      rw [hk] at HT ⊢
      replace HT : Hid _ := HT
      clear hk h hu hur h1
      obtain ⟨c0, c1, c2⟩ := box3 w (.int .i64 0) (.int .i64 0) (.string ⟨#[]⟩) 35
      go_enter Try.func20, Try.ntmps20
      go_wp2_with fail
      refine Calls.mono HT.out ?_
      rintro e w1 ⟨rfl, hb1⟩
      have hB := below_res hb1
      replace c0 := cell_later hb1 c0
      replace c1 := cell_later hb1 c1
      replace c2 := cell_later hb1 c2
      have f0 : w1.frozen? ⟨w.heap.size, 0, none⟩ = false := by rw [World.frozen?_of_block (hb1.block w.heap.size (by simp))]; simp [go_sem]
      have f1 : w1.frozen? ⟨w.heap.size, 1, none⟩ = false := by rw [World.frozen?_of_block (hb1.block w.heap.size (by simp))]; simp [go_sem]
      have f2 : w1.frozen? ⟨w.heap.size, 2, none⟩ = false := by rw [World.frozen?_of_block (hb1.block w.heap.size (by simp))]; simp [go_sem]
      clear HT hc0
      go_wp2
      refine bodyPost_ret (v := .tuple #[.agg #[.int .i64 k, .int .i64 i, .string s], .int .i64 m, .int .i64 e]) (by simp [results, Try.results20, go_sem, c0, c1, c2]) rfl ⟨rfl, ((hB.setCell (Nat.le_refl _) _).setCell (Nat.le_refl _) _).setCell (Nat.le_refl _) _⟩
    · have g1 : (x == 1) = false := by simpa using h1
      have g2 : (x == 2) = false := by simpa using h2
      rw [tkR_else r h1 h2]
      clear hu hur h
      go_enter Try.func20, Try.ntmps20
      go_wp2
      refine bodyPost_ret (v := tkA 0 0 [] 0 3) (by simp [results, Try.results20, tkA, strOfNums, go_sem]) rfl ⟨rfl, hb0 _ _ _⟩

end Go.Proofs.Ytdeplfhkeneabaa
