/- The walks of within, term, sum, and, expr. -/
import Derived.Test.YtjlmcnbmhgabpaaGreatPf
namespace Go.Proofs.YtjlmcnbmhgabpaaGreat
open Go.RowKit
set_option linter.unusedVariables false

theorem Rp.c1 {w : World} {g : Nat} {S : Sa} {d : Nat} (h : Rp w g S d) : w.cell? ⟨g, 1, none⟩ = some (.int .i64 d) ∧ w.frozen? ⟨g, 1, none⟩ = false := by
  rcases h.on with ⟨y, sl, e, h1, h2⟩ | ⟨ts, b, o, n, c, e, h1, h2⟩
  · exact ⟨h2.cells.2.1, h2.free.2.1⟩
  · exact ⟨h1.cells.2.1, h1.free.2.1⟩
theorem Rp.setD {w : World} {g : Nat} {S : Sa} {d : Nat} (h : Rp w g S d) (z : Int) (d' : Nat) (hz : z = (d' : Int)) : Rp (w.setCell ⟨g, 1, none⟩ (.int .i64 z)) g S d' := by
  subst hz
  rcases h.on with ⟨y, sl, e, h1, h2⟩ | ⟨ts, b, o, n, c, e, h1, h2⟩
  · subst e; exact Rp.of_bad h1 (h2.set1 _)
  · subst e; exact Rp.of_ok (h1.set1 _) (h2.keep (Below.heap_setCell _ _ _ _ (by have := h2.lt; show b ≠ g; omega)))
theorem Ex.setG {Q : Nat → Prop} {w : World} {t : Tr} {v : Value} (h : Ex Q w t v) {b : Nat} (hb : ¬ Q b) (o : Nat) (u : Value) : Ex Q (w.setCell ⟨b, o, none⟩ u) t v :=
  h.keep fun k hq _ => Below.heap_setCell _ _ _ _ (by rintro rfl; exact hb hq)
theorem TeE.later {g d : Nat} {w w1 w2 : World} {R : Re Tr} {e : Ending} (h : TeE g d w R e w1) (hb : Below w1.heap.size w1 w2) : TeE g d w R e w2 := by
  obtain ⟨o, p, ao, n, c, h1, h2, h3, h4⟩ := h
  exact ⟨o, p, ao, n, c, h1, h2.later hb, h3.later hb, fun t r e => (h4 t r e).later hb⟩
theorem TeE.al {g d : Nat} {w w1 : World} {R : Re Tr} {e : Ending} (h : TeE g d w R e w1) (o : Obj) : TeE g d w R e (w1.alloc o) := h.later (bal (Below.refl _ _) o)
/-- How deep one may still go. -/
def deepP (d : Nat) (P : List Tk → Re Tr) : Option (List Tk → Re Tr) := if d = 64 then none else some P

set_option maxRecDepth 100000 in
set_option maxHeartbeats 1000000 in
theorem pWithin_any {g d : Nat} {P : List Tk → Re Tr} {v : Value} {t : Tk} {ts : List Tk} {w : World} (h : Rp w g (.inr (t :: ts)) d) (ht : t.1 ≠ 6) (hd : d ≤ 64) (hv : d < 64 → PartE g (d + 1) P v) :
    Calls Tryz.prog 138 #[.pointer (some ⟨g, 0, none⟩), v] w (TeE g d w (inP (deepP d P) (t :: ts))) := by
  have hgl := h.lt
  have h0 := h.alloc (.cells #[.int .i64 0, .int .i64 0, .int .i64 0, .string ⟨#[]⟩, .string ⟨#[]⟩, .string ⟨#[]⟩, .slice none 0 0] 80)
  have b0 : Be (w.alloc (.cells #[.int .i64 0, .int .i64 0, .int .i64 0, .string ⟨#[]⟩, .string ⟨#[]⟩, .string ⟨#[]⟩, .slice none 0 0] 80)) w.heap.size 0 nilP (.slice none 0 0) := Be.new w 0 nilP (.slice none 0 0)
  have c1 := h.c1.1
  by_cases h64 : d = 64
  · subst h64
    have HF : Hid _ := hid (pFail_any h0 6 (by decide))
    clear hv h h0
    go_enter Tryz.func138, Tryz.ntmps138
    go_wp2_with fail
    refine Calls.mono HF.out ?_
    rintro e w1 ⟨rfl, hr1, hb1⟩
    have z1 := b0.but hb1 (by omega)
    obtain ⟨m0, m1, m2, m3, m4, m5, m6⟩ := z1.cells
    obtain ⟨n0, n1, n2, n3, n4, n5, n6⟩ := z1.free
    have hB := hb1.behind
    clear HF hb1 b0 c1
    go_wp2
    refine bodyPost_ret (v := exV 0 nilP (.slice none 0 0)) (by simp [results, Tryz.results138, go_sem, exV, nilP, m0, m1, m2, m3, m4, m5, m6]) rfl (TeE.fin hgl hB hr1 fun t' r e => ?_)
    rw [deepP, if_pos rfl] at e
    cases e
  · obtain ⟨N, rfl, hN, hc⟩ := hv (by omega)
    have HP : Hid _ := hid hc
    have HK : Hid _ := hid (pSkip_any h0 ht)
    have HD : Hid (inP (deepP d P) (t :: ts) = P ts) := hid (by rw [deepP, if_neg h64]; rfl)
    have g64 : ((d : Int) == 64) = false := by simp; omega
    clear hc h h0 hv
    go_enter Tryz.func138, Tryz.ntmps138
    go_wp2_with fail
    refine Calls.mono HK.out ?_
    rintro e w1 ⟨rfl, hr1, hb1⟩
    have z1 := b0.but hb1 (by omega)
    have hB1 := hb1.behind
    obtain ⟨d1, f1⟩ := hr1.c1
    have hr2 := hr1.setD ((d : Int) + 1) (d + 1) (by omega)
    have hB2 := hB1.trans (But.set g 1 w1 (.int .i64 ((d : Int) + 1)))
    have z2 := z1.other (r := g) (by omega) 1 (.int .i64 ((d : Int) + 1))
    have hsz : w.heap.size + 1 ≤ w1.heap.size := by have := hb1.size; simp at this; omega
    have H2 : Hid _ := hid (HP.out _ _ hr2)
    clear HK HP hb1 b0 c1 hB1 z1
    go_wp2_with fail
    refine Calls.mono H2.out ?_
    rintro e w3 ⟨o3, p3, a3, n3', c3, rfl, hb3, hr3, hx3⟩
    have hB3 := hB2.trans hb3
    have z3 := z2.but hb3 (by omega)
    have hsz3 : w.heap.size + 1 ≤ w3.heap.size := by have := hb3.size; simp at this; omega
    have hqg : w.heap.size < w3.heap.size := by omega
    obtain ⟨d4, f4⟩ := hr3.c1
    have hr5 := hr3.setD (d : Int) d rfl
    have hB5 := hB3.trans (But.set g 1 _ (.int .i64 (d : Int)))
    have HX5 : Hid (∀ t r, P ts = .inr (t, r) → Ex (fun b => w.heap.size + 1 ≤ b) (w3.setCell ⟨g, 1, none⟩ (.int .i64 (d : Int))) t (exV o3 p3 (.slice a3 n3' c3))) :=
      hid fun t r e => ((hx3 t r e).mono fun k hk _ => by simp at hk; omega).setG (b := g) (by omega) 1 (.int .i64 (d : Int))
    have hgw := hr3.lt
    obtain ⟨m0, m1, m2, m3, m4, m5, m6⟩ := z3.cells
    obtain ⟨n0, n1, n2, n3, n4, n5, n6⟩ := z3.free
    clear H2 hb3 hB2 hB3 z2 z3 hr3 hx3
    unfold exV
    go_wp2
    refine bodyPost_ret (v := exV o3 p3 (.slice a3 n3' c3)) (by simp [results, Tryz.results138, go_sem, exV, m0, m1, m2, m3, m4, m5, m6, hqg]) rfl (TeE.al (TeE.fin hgl hB5 (by rw [HD.out]; exact hr5) fun t' r e => ?_) _)
    rw [HD.out] at e
    exact HX5.out t' r e

end Go.Proofs.YtjlmcnbmhgabpaaGreat
