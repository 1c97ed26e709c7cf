import Derived.Test.YtnlaaejdianfjaaGreatQwaw
namespace Go.Proofs.YtnlaaejdianfjaaGreat
open Go.RowKit
set_option linter.unusedVariables false
set_option linter.unusedSimpArgs false

theorem nums_ofR {w : World} {a : Option Addr} {len cap : Nat} {xs : List Int} (h : Rd .u8 w a len cap xs) (hx : ∀ x ∈ xs, 0 ≤ x ∧ x ≤ 255) : Nums w w.heap.size a len := fun hp => by
  obtain ⟨b, o, ha, hc⟩ := h.cells hp
  have hb : b < w.heap.size := World.block_lt_of_cell? _ _ (hc 0 hp)
  refine ⟨b, o, ha, hb, hb, fun k hk => ?_⟩
  have hk' : k < xs.length := by rw [h.len]; exact hk
  have hm : nth xs k ∈ xs := by rw [nth, List.getElem?_eq_getElem hk']; exact List.getElem_mem _
  exact ⟨nth xs k, (hx _ hm).1, (hx _ hm).2, hc k hk⟩
theorem relWhereW {a : Option Addr} {len cap : Nat} {a1 : Option Addr} {len1 cap1 : Nat} {a2 : Option Addr} {len2 cap2 : Nat} {w : World} {xs xs1 xs2 : List Int} (h : Rd .u8 w a len cap xs) (hx : ∀ x ∈ xs, 0 ≤ x ∧ x ≤ 255) (h1 : Rd .u8 w a1 len1 cap1 xs1) (hx1 : ∀ x ∈ xs1, 0 ≤ x ∧ x ≤ 255) (h2 : Rd .u8 w a2 len2 cap2 xs2) (hx2 : ∀ x ∈ xs2, 0 ≤ x ∧ x ≤ 255) :
    Calls Tryz.prog 7 #[.slice a len cap, .slice a1 len1 cap1, .slice a2 len2 cap2] w fun e w' => e = .returned (.bool true) ∧ Below w.heap.size w w' := by
  obtain ⟨zs, h0, h3⟩ := NumX.of h2 hx2
  exact relWhere_any w h.cap h.max (nums_ofR h hx) h1.cap h1.max (nums_ofR h1 hx1) h0 h2.cap h2.max h3

end Go.Proofs.YtnlaaejdianfjaaGreat
