/- The walk of 'label.Take': the label at the beginning of bytes, or why there is none. -/
import Derived.Test.YtghifjiohgninaaTags
namespace Go.Proofs.Ytghifjiohgninaa
open Go.RowKit
set_option linter.unusedVariables false

/-- Why bytes are no label: 0 (they are one), 2 (they end too soon), 3 (too many tags, or such as do not rise). -/
def takeE : List Int → Int
  | [] => 2
  | m :: r => if 8 < m then 3 else if (r.length : Int) < 2 * m then 2 else if risesB (tagsL (r.take (2 * m.toNat))) then 0 else 3

def takeT (bs : List Int) : List Int := if takeE bs = 0 then tagsL (bs.tail.take (2 * (nth bs 0).toNat)) else []
def takeN (bs : List Int) : Int := if takeE bs = 0 then 1 + 2 * nth bs 0 else 0

theorem Rd.sub {k : IntKind} {w : World} {b o n c lo hi : Nat} {xs : List Int} (h : Rd k w (some ⟨b, o, none⟩) n c xs) (hl : lo ≤ hi) (hh : hi ≤ n) (ao : Option Addr) (m d : Nat) (hm : m = hi - lo) (hd : d = c - lo) (ha : 0 < m → ao = some ⟨b, o + lo, none⟩) (hn : ao ≠ none) :
    Rd k w ao m d ((xs.drop lo).take m) := by
  have h1 := h.len
  have h2 := h.cap
  have h3 := h.max
  refine ⟨by simp; omega, by omega, by omega, fun e => absurd e hn, fun hp => ⟨b, o + lo, ha hp, fun i hi' => ?_⟩⟩
  obtain ⟨b', o', e, hc⟩ := h.cells (by omega)
  cases e
  have := hc (lo + i) (by omega)
  rw [show o + lo + i = o + (lo + i) from by omega, this]
  simp only [nth]
  rw [List.getElem?_take_of_lt hi', List.getElem?_drop]

theorem tagsL_u16 {bs : List Int} (h : ∀ x ∈ bs, 0 ≤ x ∧ x ≤ 255) : ∀ t ∈ tagsL bs, 0 ≤ t ∧ t ≤ 65535 := by
  match bs, h with
  | [], _ => intro t ht; simp [tagsL] at ht
  | [_], _ => intro t ht; simp [tagsL] at ht
  | a :: b :: r, h =>
    intro t ht
    rw [tagsL, List.mem_cons] at ht
    rcases ht with rfl | ht
    · have h1 := h a (by simp)
      have h2 := h b (by simp)
      omega
    · exact tagsL_u16 (fun x hx => h x (by simp [hx])) t ht

end Go.Proofs.Ytghifjiohgninaa
