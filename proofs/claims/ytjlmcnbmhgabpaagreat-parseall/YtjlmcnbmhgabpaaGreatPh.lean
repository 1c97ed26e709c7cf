/- The walks of term, sum, and, expr. -/
import Derived.Test.YtjlmcnbmhgabpaaGreatPg
namespace Go.Proofs.YtjlmcnbmhgabpaaGreat
open Go.RowKit
set_option linter.unusedVariables false

theorem opsTerm_cw (w : World) : Cw (w.alloc (.cells #[.string ⟨#[42]⟩, .int .i64 7] 131)) w.heap.size opsTerm := by
  intro i hi
  have hi' : i < 1 := hi
  match i, hi' with
  | 0, _ => simp [go_sem, opsTerm]
set_option maxRecDepth 100000 in
set_option maxHeartbeats 1000000 in
theorem pTerm_any {g d : Nat} {U : List Tk → Re Tr} (hU : ∀ S w, Rp w g S d → Calls Tryz.prog 152 #[.pointer (some ⟨g, 0, none⟩)] w (TeE g d w (runP U S))) (hS : Shr U) {S : Sa} {w : World} (h : Rp w g S d) :
    Calls Tryz.prog 149 #[.pointer (some ⟨g, 0, none⟩)] w (TeE g d w (runP (chainP U opsTerm) S)) := by
  have hgl := h.lt
  have hmf : ∀ (fn : Fn) (first cap : Array Value) (w : World), (Instr.makeFunc fn first cap).run Tryz.prog w = .ok (.func fn first cap) w := fun _ _ _ _ => rfl
  have b0 := (Be.new w 0 nilP (.slice none 0 0)).later (bal (Below.refl _ _) (.cells #[.string ⟨#[42]⟩, .int .i64 7] 131))
  have hcw := opsTerm_cw (w.alloc (.cells #[.int .i64 0, .int .i64 0, .int .i64 0, .string ⟨#[]⟩, .string ⟨#[]⟩, .string ⟨#[]⟩, .slice none 0 0] 80))
  rw [World.size_alloc] at hcw
  have HC : Hid _ := hid (pChain_any (b := w.heap.size + 1) ((h.alloc (.cells #[.int .i64 0, .int .i64 0, .int .i64 0, .string ⟨#[]⟩, .string ⟨#[]⟩, .string ⟨#[]⟩, .slice none 0 0] 80)).alloc (.cells #[.string ⟨#[42]⟩, .int .i64 7] 131)) ⟨152, rfl, fun _ _ => by kernel_rfl, hU⟩ hS (by decide) (by decide) (by omega) (by simp) hcw)
  rw [show opsTerm.length = 1 from rfl] at HC
  clear hU hS hcw h
  go_enter Tryz.func149, Tryz.ntmps149
  go_wp2_with fail
  refine Calls.mono HC.out ?_
  rintro e w1 ⟨o1, p1, a1, k1, c1, rfl, hb1, hr1, hx1⟩
  have z1 := b0.but hb1 (by omega)
  obtain ⟨m0, m1, m2, m3, m4, m5, m6⟩ := z1.cells
  obtain ⟨n0, n1, n2, n3, n4, n5, n6⟩ := z1.free
  have hB : But g w w1 := hb1.behind.behind
  clear HC b0 hb1 z1
  unfold exV
  go_wp2
  refine bodyPost_ret (v := exV o1 p1 (.slice a1 k1 c1)) (by simp [results, Tryz.results149, go_sem, exV, m0, m1, m2, m3, m4, m5, m6]) rfl (TeE.fin hgl hB hr1 fun t r e => (hx1 t r e).mono fun k hk _ => by simp at hk; omega)

theorem opsSum_cw (w : World) : Cw (w.alloc (.cells #[.string ⟨#[43]⟩, .int .i64 5, .string ⟨#[45]⟩, .int .i64 6] 131)) w.heap.size opsSum := by
  intro i hi
  have hi' : i < 2 := hi
  match i, hi' with
  | 0, _ => simp [go_sem, opsSum]
  | 1, _ => simp [go_sem, opsSum]
set_option maxRecDepth 100000 in
set_option maxHeartbeats 1000000 in
theorem pSum_any {g d : Nat} {U : List Tk → Re Tr} (hU : ∀ S w, Rp w g S d → Calls Tryz.prog 149 #[.pointer (some ⟨g, 0, none⟩)] w (TeE g d w (runP U S))) (hS : Shr U) {S : Sa} {w : World} (h : Rp w g S d) :
    Calls Tryz.prog 145 #[.pointer (some ⟨g, 0, none⟩)] w (TeE g d w (runP (chainP U opsSum) S)) := by
  have hgl := h.lt
  have hmf : ∀ (fn : Fn) (first cap : Array Value) (w : World), (Instr.makeFunc fn first cap).run Tryz.prog w = .ok (.func fn first cap) w := fun _ _ _ _ => rfl
  have b0 := (Be.new w 0 nilP (.slice none 0 0)).later (bal (Below.refl _ _) (.cells #[.string ⟨#[43]⟩, .int .i64 5, .string ⟨#[45]⟩, .int .i64 6] 131))
  have hcw := opsSum_cw (w.alloc (.cells #[.int .i64 0, .int .i64 0, .int .i64 0, .string ⟨#[]⟩, .string ⟨#[]⟩, .string ⟨#[]⟩, .slice none 0 0] 80))
  rw [World.size_alloc] at hcw
  have HC : Hid _ := hid (pChain_any (b := w.heap.size + 1) ((h.alloc (.cells #[.int .i64 0, .int .i64 0, .int .i64 0, .string ⟨#[]⟩, .string ⟨#[]⟩, .string ⟨#[]⟩, .slice none 0 0] 80)).alloc (.cells #[.string ⟨#[43]⟩, .int .i64 5, .string ⟨#[45]⟩, .int .i64 6] 131)) ⟨149, rfl, fun _ _ => by kernel_rfl, hU⟩ hS (by decide) (by decide) (by omega) (by simp) hcw)
  rw [show opsSum.length = 2 from rfl] at HC
  clear hU hS hcw h
  go_enter Tryz.func145, Tryz.ntmps145
  go_wp2_with fail
  refine Calls.mono HC.out ?_
  rintro e w1 ⟨o1, p1, a1, k1, c1, rfl, hb1, hr1, hx1⟩
  have z1 := b0.but hb1 (by omega)
  obtain ⟨m0, m1, m2, m3, m4, m5, m6⟩ := z1.cells
  obtain ⟨n0, n1, n2, n3, n4, n5, n6⟩ := z1.free
  have hB : But g w w1 := hb1.behind.behind
  clear HC b0 hb1 z1
  unfold exV
  go_wp2
  refine bodyPost_ret (v := exV o1 p1 (.slice a1 k1 c1)) (by simp [results, Tryz.results145, go_sem, exV, m0, m1, m2, m3, m4, m5, m6]) rfl (TeE.fin hgl hB hr1 fun t r e => (hx1 t r e).mono fun k hk _ => by simp at hk; omega)

theorem opsAnd_cw (w : World) : Cw (w.alloc (.cells #[.string ⟨#[97, 110, 100]⟩, .int .i64 14] 131)) w.heap.size opsAnd := by
  intro i hi
  have hi' : i < 1 := hi
  match i, hi' with
  | 0, _ => simp [go_sem, opsAnd]
set_option maxRecDepth 100000 in
set_option maxHeartbeats 1000000 in
theorem pAnd_any {g d : Nat} {U : List Tk → Re Tr} (hU : ∀ S w, Rp w g S d → Calls Tryz.prog 130 #[.pointer (some ⟨g, 0, none⟩)] w (TeE g d w (runP U S))) (hS : Shr U) {S : Sa} {w : World} (h : Rp w g S d) :
    Calls Tryz.prog 120 #[.pointer (some ⟨g, 0, none⟩)] w (TeE g d w (runP (chainP U opsAnd) S)) := by
  have hgl := h.lt
  have hmf : ∀ (fn : Fn) (first cap : Array Value) (w : World), (Instr.makeFunc fn first cap).run Tryz.prog w = .ok (.func fn first cap) w := fun _ _ _ _ => rfl
  have b0 := (Be.new w 0 nilP (.slice none 0 0)).later (bal (Below.refl _ _) (.cells #[.string ⟨#[97, 110, 100]⟩, .int .i64 14] 131))
  have hcw := opsAnd_cw (w.alloc (.cells #[.int .i64 0, .int .i64 0, .int .i64 0, .string ⟨#[]⟩, .string ⟨#[]⟩, .string ⟨#[]⟩, .slice none 0 0] 80))
  rw [World.size_alloc] at hcw
  have HC : Hid _ := hid (pChain_any (b := w.heap.size + 1) ((h.alloc (.cells #[.int .i64 0, .int .i64 0, .int .i64 0, .string ⟨#[]⟩, .string ⟨#[]⟩, .string ⟨#[]⟩, .slice none 0 0] 80)).alloc (.cells #[.string ⟨#[97, 110, 100]⟩, .int .i64 14] 131)) ⟨130, rfl, fun _ _ => by kernel_rfl, hU⟩ hS (by decide) (by decide) (by omega) (by simp) hcw)
  rw [show opsAnd.length = 1 from rfl] at HC
  clear hU hS hcw h
  go_enter Tryz.func120, Tryz.ntmps120
  go_wp2_with fail
  refine Calls.mono HC.out ?_
  rintro e w1 ⟨o1, p1, a1, k1, c1, rfl, hb1, hr1, hx1⟩
  have z1 := b0.but hb1 (by omega)
  obtain ⟨m0, m1, m2, m3, m4, m5, m6⟩ := z1.cells
  obtain ⟨n0, n1, n2, n3, n4, n5, n6⟩ := z1.free
  have hB : But g w w1 := hb1.behind.behind
  clear HC b0 hb1 z1
  unfold exV
  go_wp2
  refine bodyPost_ret (v := exV o1 p1 (.slice a1 k1 c1)) (by simp [results, Tryz.results120, go_sem, exV, m0, m1, m2, m3, m4, m5, m6]) rfl (TeE.fin hgl hB hr1 fun t r e => (hx1 t r e).mono fun k hk _ => by simp at hk; omega)

theorem opsOr_cw (w : World) : Cw (w.alloc (.cells #[.string ⟨#[111, 114]⟩, .int .i64 15] 131)) w.heap.size opsOr := by
  intro i hi
  have hi' : i < 1 := hi
  match i, hi' with
  | 0, _ => simp [go_sem, opsOr]
set_option maxRecDepth 100000 in
set_option maxHeartbeats 1000000 in
theorem pExpr_any {g d : Nat} {U : List Tk → Re Tr} (hU : ∀ S w, Rp w g S d → Calls Tryz.prog 120 #[.pointer (some ⟨g, 0, none⟩)] w (TeE g d w (runP U S))) (hS : Shr U) {S : Sa} {w : World} (h : Rp w g S d) :
    Calls Tryz.prog 86 #[.pointer (some ⟨g, 0, none⟩)] w (TeE g d w (runP (chainP U opsOr) S)) := by
  have hgl := h.lt
  have hmf : ∀ (fn : Fn) (first cap : Array Value) (w : World), (Instr.makeFunc fn first cap).run Tryz.prog w = .ok (.func fn first cap) w := fun _ _ _ _ => rfl
  have b0 := (Be.new w 0 nilP (.slice none 0 0)).later (bal (Below.refl _ _) (.cells #[.string ⟨#[111, 114]⟩, .int .i64 15] 131))
  have hcw := opsOr_cw (w.alloc (.cells #[.int .i64 0, .int .i64 0, .int .i64 0, .string ⟨#[]⟩, .string ⟨#[]⟩, .string ⟨#[]⟩, .slice none 0 0] 80))
  rw [World.size_alloc] at hcw
  have HC : Hid _ := hid (pChain_any (b := w.heap.size + 1) ((h.alloc (.cells #[.int .i64 0, .int .i64 0, .int .i64 0, .string ⟨#[]⟩, .string ⟨#[]⟩, .string ⟨#[]⟩, .slice none 0 0] 80)).alloc (.cells #[.string ⟨#[111, 114]⟩, .int .i64 15] 131)) ⟨120, rfl, fun _ _ => by kernel_rfl, hU⟩ hS (by decide) (by decide) (by omega) (by simp) hcw)
  rw [show opsOr.length = 1 from rfl] at HC
  clear hU hS hcw h
  go_enter Tryz.func86, Tryz.ntmps86
  go_wp2_with fail
  refine Calls.mono HC.out ?_
  rintro e w1 ⟨o1, p1, a1, k1, c1, rfl, hb1, hr1, hx1⟩
  have z1 := b0.but hb1 (by omega)
  obtain ⟨m0, m1, m2, m3, m4, m5, m6⟩ := z1.cells
  obtain ⟨n0, n1, n2, n3, n4, n5, n6⟩ := z1.free
  have hB : But g w w1 := hb1.behind.behind
  clear HC b0 hb1 z1
  unfold exV
  go_wp2
  refine bodyPost_ret (v := exV o1 p1 (.slice a1 k1 c1)) (by simp [results, Tryz.results86, go_sem, exV, m0, m1, m2, m3, m4, m5, m6]) rfl (TeE.fin hgl hB hr1 fun t r e => (hx1 t r e).mono fun k hk _ => by simp at hk; omega)

end Go.Proofs.YtjlmcnbmhgabpaaGreat
