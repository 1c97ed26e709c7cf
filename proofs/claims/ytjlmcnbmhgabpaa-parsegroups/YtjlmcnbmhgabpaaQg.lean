/- The walk of ParseGroups. -/
import Derived.Test.YtjlmcnbmhgabpaaQf
import Derived.BigRegion
namespace Go.Proofs.Ytjlmcnbmhgabpaa
open Go.RowKit
set_option linter.unusedVariables false

theorem told_ok {s : ByteArray} {Z : List UInt8} {l : List Tk} {t : Tr} (hb : bs s = preD' ++ Z) (hz : s.size ≤ 400) (hl : Tell s preD' Z l) (hw : whOf (parseW (preK l)) = some [t]) : ∀ X a f, PaR s X a f → f = 0 ∧ ∃ m, X = some m ∧ m.1.wh = [t] := by
  intro X a f hp
  have hx : LexR s (preK l) 0 0 := .inr ⟨hz, lx_pre hb (hl hb)⟩
  obtain ⟨ts, b, e, h1, h2⟩ := hp
  obtain ⟨rfl, rfl, rfl⟩ := hx.det h1
  rcases h2 with ⟨he, _⟩ | ⟨_, ⟨x, hx, _, _, _, _⟩ | ⟨m, r, hx, rfl, rfl, rfl⟩⟩
  · exact absurd rfl he
  · rw [hx] at hw; cases hw
  · rw [hx] at hw
    simp only [whOf, Option.some.injEq] at hw
    exact ⟨rfl, m, rfl, hw⟩
theorem told_no {s : ByteArray} {Z : List UInt8} {l : List Tk} (hb : bs s = preD' ++ Z) (hz : s.size ≤ 400) (hl : Tell s preD' Z l) (hw : whOf (parseW (preK l)) = none) : ∀ X a f, PaR s X a f → f ≠ 0 := by
  intro X a f hp
  have hx : LexR s (preK l) 0 0 := .inr ⟨hz, lx_pre hb (hl hb)⟩
  obtain ⟨ts, b, e, h1, h2⟩ := hp
  obtain ⟨rfl, rfl, rfl⟩ := hx.det h1
  rcases h2 with ⟨he, _⟩ | ⟨_, ⟨x, hx, _, _, _, hf⟩ | ⟨m, r, hx, rfl, rfl, rfl⟩⟩
  · exact absurd rfl he
  · exact hf
  · rw [hx] at hw; cases hw
def vB (c : UInt8) (d : Nat) : ByteArray := ⟨#[c, dgB d]⟩
def oB (p : Nat) : ByteArray := ⟨(opB p).toArray⟩
theorem bsA (s t : ByteArray) : bs (s ++ t) = bs s ++ bs t := by
  show (s ++ t).data.toList = s.data.toList ++ t.data.toList
  rw [ByteArray.data_append, Array.toList_append]
theorem oB_len : ∀ p, (opB p).length ≤ 3 := by
  intro p
  unfold opB
  split <;> decide
def tx1 (p q d1 d2 d3 : Nat) : ByteArray := vB 97 d1 ++ ⟨#[32]⟩ ++ oB p ++ ⟨#[32]⟩ ++ vB 98 d2 ++ ⟨#[32]⟩ ++ oB q ++ ⟨#[32]⟩ ++ vB 99 d3
def tx2 (p q d1 d2 d3 : Nat) : ByteArray := ⟨#[40]⟩ ++ vB 97 d1 ++ ⟨#[32]⟩ ++ oB p ++ ⟨#[32]⟩ ++ vB 98 d2 ++ ⟨#[41, 32]⟩ ++ oB q ++ ⟨#[32]⟩ ++ vB 99 d3
def tx3 (p q d1 d2 d3 : Nat) : ByteArray := vB 97 d1 ++ ⟨#[32]⟩ ++ oB p ++ ⟨#[32, 40]⟩ ++ vB 98 d2 ++ ⟨#[32]⟩ ++ oB q ++ ⟨#[32]⟩ ++ vB 99 d3 ++ ⟨#[41]⟩
theorem bs_tx1 (p q d1 d2 d3 : Nat) : bs (preS ++ tx1 p q d1 d2 d3) = preD' ++ (97 :: dgB d1 :: 32 :: (opB p ++ 32 :: (98 :: dgB d2 :: 32 :: (opB q ++ 32 :: (99 :: dgB d3 :: []))))) := by
  unfold tx1
  simp only [bsA, List.append_assoc]
  have e1 : bs (oB p) = opB p := by simp [bs, oB]
  have e2 : bs (oB q) = opB q := by simp [bs, oB]
  rw [e1, e2]
  rfl
theorem bs_tx2 (p q d1 d2 d3 : Nat) : bs (preS ++ tx2 p q d1 d2 d3) = preD' ++ (40 :: 97 :: dgB d1 :: 32 :: (opB p ++ 32 :: (98 :: dgB d2 :: 41 :: 32 :: (opB q ++ 32 :: (99 :: dgB d3 :: []))))) := by
  unfold tx2
  simp only [bsA, List.append_assoc]
  have e1 : bs (oB p) = opB p := by simp [bs, oB]
  have e2 : bs (oB q) = opB q := by simp [bs, oB]
  rw [e1, e2]
  rfl
theorem bs_tx3 (p q d1 d2 d3 : Nat) : bs (preS ++ tx3 p q d1 d2 d3) = preD' ++ (97 :: dgB d1 :: 32 :: (opB p ++ 32 :: (40 :: 98 :: dgB d2 :: 32 :: (opB q ++ 32 :: (99 :: dgB d3 :: 41 :: []))))) := by
  unfold tx3
  simp only [bsA, List.append_assoc]
  have e1 : bs (oB p) = opB p := by simp [bs, oB]
  have e2 : bs (oB q) = opB q := by simp [bs, oB]
  rw [e1, e2]
  rfl
theorem sz_of {s : ByteArray} {l : List UInt8} (h : bs s = l) (hl : l.length ≤ 400) : s.size ≤ 400 := by rw [← bs_length, h]; exact hl
theorem sz1 (p q d1 d2 d3 : Nat) : (preS ++ tx1 p q d1 d2 d3).size ≤ 400 := sz_of (bs_tx1 p q d1 d2 d3) (by have := oB_len p; have := oB_len q; simp [preD']; omega)
theorem sz2 (p q d1 d2 d3 : Nat) : (preS ++ tx2 p q d1 d2 d3).size ≤ 400 := sz_of (bs_tx2 p q d1 d2 d3) (by have := oB_len p; have := oB_len q; simp [preD']; omega)
theorem sz3 (p q d1 d2 d3 : Nat) : (preS ++ tx3 p q d1 d2 d3).size ≤ 400 := sz_of (bs_tx3 p q d1 d2 d3) (by have := oB_len p; have := oB_len q; simp [preD']; omega)
theorem told1 {p q d1 d2 d3 : Nat} (hp : p < 6) (hq : q < 6) (h1 : d1 < 10) (h2 : d2 < 10) (h3 : d3 < 10) (h : ¬ (p = 2 ∧ q = 2)) : ∀ X a f, PaR (preS ++ tx1 p q d1 d2 d3) X a f → f = 0 ∧ ∃ m, X = some m ∧ m.1.wh = [grp p q (vB 97 d1) (vB 98 d2) (vB 99 d3)] :=
  told_ok (bs_tx1 p q d1 d2 d3) (sz1 p q d1 d2 d3) (.var (.inl rfl) h1 rfl (.sp (.op hp (.sp (.var (.inr (.inl rfl)) h2 rfl (.sp (.op hq (.sp (.var (.inr (.inr rfl)) h3 rfl (.fin _ _)))))))))) (gT1_at _ _ _ _ _ _ _ _ _ p hp q hq h)
theorem told1_no {d1 d2 d3 : Nat} (h1 : d1 < 10) (h2 : d2 < 10) (h3 : d3 < 10) : ∀ X a f, PaR (preS ++ tx1 2 2 d1 d2 d3) X a f → f ≠ 0 :=
  told_no (bs_tx1 2 2 d1 d2 d3) (sz1 2 2 d1 d2 d3) (.var (.inl rfl) h1 rfl (.sp (.op (by decide) (.sp (.var (.inr (.inl rfl)) h2 rfl (.sp (.op (by decide) (.sp (.var (.inr (.inr rfl)) h3 rfl (.fin _ _)))))))))) (gT1_no _ _ _ _ _ _ _ _ _)
theorem told2 {p q d1 d2 d3 : Nat} (hp : p < 6) (hq : q < 6) (h1 : d1 < 10) (h2 : d2 < 10) (h3 : d3 < 10) (h : rk q ≤ rk p) : ∀ X a f, PaR (preS ++ tx2 p q d1 d2 d3) X a f → f = 0 ∧ ∃ m, X = some m ∧ m.1.wh = [grp p q (vB 97 d1) (vB 98 d2) (vB 99 d3)] :=
  told_ok (bs_tx2 p q d1 d2 d3) (sz2 p q d1 d2 d3) (.sg (by decide) (.var (.inl rfl) h1 rfl (.sp (.op hp (.sp (.var (.inr (.inl rfl)) h2 rfl (.sg (by decide) (.sp (.op hq (.sp (.var (.inr (.inr rfl)) h3 rfl (.fin _ _)))))))))))) (gT2_at _ _ _ _ _ _ _ _ _ _ _ p hp q hq h)
theorem told3 {p q d1 d2 d3 : Nat} (hp : p < 6) (hq : q < 6) (h1 : d1 < 10) (h2 : d2 < 10) (h3 : d3 < 10) (h : rk p < rk q) : ∀ X a f, PaR (preS ++ tx3 p q d1 d2 d3) X a f → f = 0 ∧ ∃ m, X = some m ∧ m.1.wh = [grp p q (vB 97 d1) (vB 98 d2) (vB 99 d3)] :=
  told_ok (bs_tx3 p q d1 d2 d3) (sz3 p q d1 d2 d3) (.var (.inl rfl) h1 rfl (.sp (.op hp (.sp (.sg (by decide) (.var (.inr (.inl rfl)) h2 rfl (.sp (.op hq (.sp (.var (.inr (.inr rfl)) h3 rfl (.sg (by decide) (.fin _ _)))))))))))) (gT3_at _ _ _ _ _ _ _ _ _ _ _ p hp q hq h)
theorem conv2 (U : World) (b d : Nat) (c : UInt8) (hd : d < 10) (h0 : U.cell? ⟨b, 0, none⟩ = some (.int .u8 (c.toNat : Int))) (h1 : U.cell? ⟨b, 1, none⟩ = some (.int .u8 ((48 : Int) + (d : Int)))) : (convert 36 9 (.slice (some ⟨b, 0, none⟩) 2 2)).run Try.prog U = .ok (.string (vB c d)) U := by
  refine run_convert_bytes_back (P := Try.prog) U 36 9 5 ⟨b, 0, none⟩ 2 [c, dgB d] Try.underlying36 Try.underlying5 Try.underlying9 ?_
  intro j hj
  have e : ((dgB d).toNat : Int) = 48 + (d : Int) := by
    rw [dgB, UInt8.toNat_ofNat']
    omega
  match j, hj with
  | 0, _ => simpa [Addr.add] using h0
  | 1, _ => simpa [Addr.add, e] using h1

end Go.Proofs.Ytjlmcnbmhgabpaa
