/- The walks of tag, col. -/
import Derived.Test.YtjlmcnbmhgabpaaGreatPn
namespace Go.Proofs.YtjlmcnbmhgabpaaGreat
open Go.RowKit
set_option linter.unusedVariables false

theorem tag_ok {S : Sa} (h : ¬ ((nxT S).1 = 3 ∧ 65535 < (nxT S).2.2.1)) : runP tagP S = mapR (fun t => IntKind.u16.wrap t.2.2.1) (runP (kindP 3) S) := by
  match S with
  | .inl x => rfl
  | .inr [] => rfl
  | .inr (t :: ts) =>
    have h' : ¬ (t.1 = 3 ∧ 65535 < t.2.2.1) := h
    show tagP (t :: ts) = mapR _ (kindP 3 (t :: ts))
    rw [tagP, kindP]
    by_cases h3 : t.1 = 3
    · rw [if_pos h3, if_pos h3, if_neg (fun k => h' ⟨h3, k⟩)]
      rfl
    · rw [if_neg h3, if_neg h3]
      rfl
theorem tag_big {S : Sa} (h : (nxT S).1 = 3 ∧ 65535 < (nxT S).2.2.1) : stO (runP tagP S) = failS 3 S ∧ (∀ t r, runP tagP S ≠ .inr (t, r)) ∧ ∃ x, failS 3 S = .inl x := by
  match S with
  | .inl x => exact absurd h.1 (by simp [nxT])
  | .inr [] => exact absurd h.1 (by decide)
  | .inr (t :: ts) =>
    have h' : t.1 = 3 ∧ 65535 < t.2.2.1 := h
    have e : runP tagP (.inr (t :: ts)) = .inl (t.2.2.2, 3) := by
      show tagP (t :: ts) = _
      rw [tagP, if_pos h'.1, if_pos h'.2]
    rw [e]
    exact ⟨rfl, fun t r e => (by cases e), ⟨_, rfl⟩⟩

set_option maxRecDepth 100000 in
set_option maxHeartbeats 1000000 in
theorem pTag_any {g : Nat} {S : Sa} {w : World} (h : Rp w g S 0) : Calls Tryz.prog 41 #[.pointer (some ⟨g, 0, none⟩)] w (TeTag g w (runP tagP S)) := by
  have hgl := h.lt
  have H := pNext_any h
  have H3 : Hid _ := hid (tag_ok (S := S))
  have H4 : Hid _ := hid (tag_big (S := S))
  generalize runP tagP S = R at *
  have HF : Hid (∀ w', Rp w' g S 0 → _) := hid fun w' hr => pFail_any hr 3 (by decide)
  have HK : Hid (∀ (S : Sa) (w' : World), Rp w' g S 0 → _) := hid fun S w' hr => pKind_any hr 3 (by decide) (by decide)
  unfold tkA at H
  generalize nxT S = t at *
  obtain ⟨t0, t1, t2, t3⟩ := t
  replace H : Hid _ := hid H
  have hf := fld_int
  by_cases h3 : t0 = 3
  · subst h3
    by_cases hbig : 65535 < t2
    · have gb : decide ((65535 : Int) < t2) = true := by simpa using hbig
      obtain ⟨e1, e2, x, e3⟩ := H4.out ⟨rfl, hbig⟩
      have E1 : Hid _ := hid e1
      have E2 : Hid _ := hid e2
      rw [e3] at HF
      rw [e3] at E1
      clear H3 H4 hbig e1 e2
      go_enter Tryz.func41, Tryz.ntmps41
      go_wp2_with fail
      refine Calls.mono H.out ?_
      rintro e w1 ⟨rfl, hb1⟩
      have hr1 := (h.later hb1).alloc (.cells #[.int .i64 3, .string t1, .int .i64 t2, .int .i64 t3] 45)
      have H1 : Hid _ := hid (HF.out _ hr1)
      have hB1 := (But.of (g := g) hb1).alloc (.cells #[.int .i64 3, .string t1, .int .i64 t2, .int .i64 t3] 45)
      clear H HF hb1 hr1
      go_wp2_with fail
      refine Calls.mono H1.out ?_
      rintro e w2 ⟨rfl, hr2, hb2⟩
      have H2 : Hid _ := hid (HK.out _ _ hr2)
      have hB2 := hB1.trans hb2
      clear H1 HK hb2 hB1
      go_wp2_with fail
      refine Calls.mono H2.out ?_
      rintro e w3 ⟨t, rfl, hb3, hr3, hu3⟩
      have hB3 := hB2.trans hb3
      clear H2 hb3 hB2
      unfold tkA
      go_wp2
      go_ret
      exact ⟨_, rfl, hB3, by rw [E1.out]; exact hr3, fun t r e => absurd e (E2.out t r)⟩
    · have gb : decide ((65535 : Int) < t2) = false := by simpa using hbig
      have E1 : Hid _ := hid (H3.out fun k => hbig k.2)
      clear H3 H4 hbig
      go_enter Tryz.func41, Tryz.ntmps41
      go_wp2_with fail
      refine Calls.mono H.out ?_
      rintro e w1 ⟨rfl, hb1⟩
      have hr1 := (h.later hb1).alloc (.cells #[.int .i64 3, .string t1, .int .i64 t2, .int .i64 t3] 45)
      have H2 : Hid _ := hid (HK.out _ _ hr1)
      have hB1 := (But.of (g := g) hb1).alloc (.cells #[.int .i64 3, .string t1, .int .i64 t2, .int .i64 t3] 45)
      clear H HF hb1 hr1 HK
      go_wp2_with fail
      refine Calls.mono H2.out ?_
      rintro e w3 ⟨t, rfl, hb3, hr3, hu3⟩
      have hB3 := hB1.trans hb3
      clear H2 hb3 hB1
      unfold tkA
      go_wp2
      go_ret
      refine ⟨_, rfl, hB3, by rw [E1.out, stO_mapR]; exact hr3, fun t r e => ?_⟩
      rw [E1.out] at e
      obtain ⟨u, e2, rfl⟩ := mapR_inr e
      rw [hu3 u r e2]
  · have g3 : (t0 == 3) = false := by simpa using h3
    have E1 : Hid _ := hid (H3.out fun k => h3 k.1)
    clear H3 H4 h3
    go_enter Tryz.func41, Tryz.ntmps41
    go_wp2_with fail
    refine Calls.mono H.out ?_
    rintro e w1 ⟨rfl, hb1⟩
    have hr1 := (h.later hb1).alloc (.cells #[.int .i64 t0, .string t1, .int .i64 t2, .int .i64 t3] 45)
    have H2 : Hid _ := hid (HK.out _ _ hr1)
    have hB1 := (But.of (g := g) hb1).alloc (.cells #[.int .i64 t0, .string t1, .int .i64 t2, .int .i64 t3] 45)
    clear H HF hb1 hr1 HK
    go_wp2_with fail
    refine Calls.mono H2.out ?_
    rintro e w3 ⟨t, rfl, hb3, hr3, hu3⟩
    have hB3 := hB1.trans hb3
    clear H2 hb3 hB1
    unfold tkA
    go_wp2
    go_ret
    refine ⟨_, rfl, hB3, by rw [E1.out, stO_mapR]; exact hr3, fun t r e => ?_⟩
    rw [E1.out] at e
    obtain ⟨u, e2, rfl⟩ := mapR_inr e
    rw [hu3 u r e2]

/-- A block of three cells. -/
structure Bt (w : World) (b ty : Nat) (x y z : Value) : Prop where
  row : w.heap[b]? = some (.cells #[x, y, z] ty (0, 0))
theorem Bt.new (w : World) (ty : Nat) (x y z : Value) : Bt (w.alloc (.cells #[x, y, z] ty)) w.heap.size ty x y z := ⟨heap_alloc_new w _⟩
theorem Bt.lt {w : World} {b ty : Nat} {x y z : Value} (h : Bt w b ty x y z) : b < w.heap.size := (Array.getElem?_eq_some_iff.1 h.row).1
theorem Bt.keep {w w' : World} {b ty : Nat} {x y z : Value} (h : Bt w b ty x y z) (hk : w'.heap[b]? = w.heap[b]?) : Bt w' b ty x y z := ⟨hk.trans h.row⟩
theorem Bt.later {w w' : World} {b ty : Nat} {x y z : Value} (h : Bt w b ty x y z) (hb : Below w.heap.size w w') : Bt w' b ty x y z := h.keep (hb.block b h.lt)
theorem Bt.but {w w' : World} {b ty g : Nat} {x y z : Value} (h : Bt w b ty x y z) (hb : But g w w') (hg : b ≠ g) : Bt w' b ty x y z := h.keep (hb.block b h.lt hg)
theorem Bt.cells {w : World} {b ty : Nat} {x y z : Value} (h : Bt w b ty x y z) : w.cell? ⟨b, 0, none⟩ = some x ∧ w.cell? ⟨b, 1, none⟩ = some y ∧ w.cell? ⟨b, 2, none⟩ = some z := by
  unfold World.cell?; rw [h.row]; exact ⟨rfl, rfl, rfl⟩
theorem Bt.free {w : World} {b ty : Nat} {x y z : Value} (h : Bt w b ty x y z) : w.frozen? ⟨b, 0, none⟩ = false ∧ w.frozen? ⟨b, 1, none⟩ = false ∧ w.frozen? ⟨b, 2, none⟩ = false := by
  unfold World.frozen?; rw [h.row]; exact ⟨rfl, rfl, rfl⟩
theorem Bt.set0 {w : World} {b ty : Nat} {x y z : Value} (h : Bt w b ty x y z) (v : Value) : Bt (w.setCell ⟨b, 0, none⟩ v) b ty v y z := ⟨by simp [World.setCell, Array.getElem?_modify, h.row]⟩
theorem Bt.set1 {w : World} {b ty : Nat} {x y z : Value} (h : Bt w b ty x y z) (v : Value) : Bt (w.setCell ⟨b, 1, none⟩ v) b ty x v z := ⟨by simp [World.setCell, Array.getElem?_modify, h.row]⟩
theorem Bt.set2 {w : World} {b ty : Nat} {x y z : Value} (h : Bt w b ty x y z) (v : Value) : Bt (w.setCell ⟨b, 2, none⟩ v) b ty x y v := ⟨by simp [World.setCell, Array.getElem?_modify, h.row]⟩
theorem Bt.other {w : World} {b ty : Nat} {x y z : Value} (h : Bt w b ty x y z) {r : Nat} (hr : b ≠ r) (o : Nat) (v : Value) : Bt (w.setCell ⟨r, o, none⟩ v) b ty x y z := h.keep (Below.heap_setCell _ _ _ _ hr)
def set3 (w : World) (b : Nat) (x y z : Value) : World := ((w.setCell ⟨b, 0, none⟩ x).setCell ⟨b, 1, none⟩ y).setCell ⟨b, 2, none⟩ z
theorem But.set3 {g : Nat} {a w : World} (h : But g a w) {b : Nat} (hb : a.heap.size ≤ b) (x y z : Value) : But g a (set3 w b x y z) := ((h.new hb 0 _).new hb 1 _).new hb 2 _
theorem Rp.set3 {w : World} {g : Nat} {S : Sa} {d : Nat} (h : Rp w g S d) {b : Nat} (hb : g < b) (x y z : Value) : Rp (set3 w b x y z) g S d := ((h.other hb 0 _).other hb 1 _).other hb 2 _
theorem TeCol.fin {g : Nat} {w w1 : World} {R : Re Co} {a f : ByteArray} {k : Int} (hg : g < w.heap.size) (hB : But g w w1) (hr : Rp w1 g (stO R) 0) (hx : ∀ t r, R = .inr (t, r) → (a, k, f) = t) :
    TeCol g w R (.returned (.agg #[.string a, .int .i64 k, .string f])) (set3 w1 w.heap.size (.string a) (.int .i64 k) (.string f)) :=
  ⟨a, k, f, rfl, hB.set3 (Nat.le_refl _) _ _ _, hr.set3 hg _ _ _, hx⟩
theorem TeItem.fin {g : Nat} {w w1 : World} {R : Re It} {a f : ByteArray} {k : Int} (hg : g < w.heap.size) (hB : But g w w1) (hr : Rp w1 g (stO R) 0) (hx : ∀ t r, R = .inr (t, r) → (k, a, f) = t) :
    TeItem g w R (.returned (.agg #[.int .i64 k, .string a, .string f])) (set3 w1 w.heap.size (.int .i64 k) (.string a) (.string f)) :=
  ⟨k, a, f, rfl, hB.set3 (Nat.le_refl _) _ _ _, hr.set3 hg _ _ _, hx⟩
theorem opsKind_pos : ∀ c ∈ opsKind, 0 < c.2 := by decide
theorem opsKind_cw (w : World) : Cw (w.alloc (.cells #[.string ⟨#[105, 110, 116]⟩, .int .i64 1, .string ⟨#[116, 101, 120, 116]⟩, .int .i64 2] 131)) w.heap.size opsKind := by
  intro i hi
  have hi' : i < 2 := hi
  match i, hi' with
  | 0, _ => simp [go_sem, opsKind]
  | 1, _ => simp [go_sem, opsKind]
theorem pKinds {g : Nat} {S : Sa} {d : Nat} {w : World} (h : Rp w g S d) {b : Nat} (hb : w.heap.size = b := by rfl) :
    Calls Tryz.prog 116 #[.pointer (some ⟨g, 0, none⟩), .slice (some ⟨b, 0, none⟩) 2 2] (w.alloc (.cells #[.string ⟨#[105, 110, 116]⟩, .int .i64 1, .string ⟨#[116, 101, 120, 116]⟩, .int .i64 2] 131)) fun x w' => x = .returned (.int .i64 (oneB opsKind S)) ∧ Rp w' g (oneS opsKind S) d ∧ But g w w' := by
  subst hb
  have hgl := h.lt
  refine Calls.mono (pOneOf_any (b := w.heap.size) (h.alloc (.cells #[.string ⟨#[105, 110, 116]⟩, .int .i64 1, .string ⟨#[116, 101, 120, 116]⟩, .int .i64 2] 131)) opsKind (by decide) (by omega) (opsKind_cw w)) ?_
  rintro x w' ⟨h1, h2, h3⟩
  exact ⟨h1, h2, h3.behind⟩

theorem sz_set (w : World) (a : Addr) (v : Value) : (w.setCell a v).heap.size = w.heap.size := by simp [World.setCell]

end Go.Proofs.YtjlmcnbmhgabpaaGreat
