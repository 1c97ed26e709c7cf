/- The walks of not and unary. -/
import Derived.Test.YtjlmcnbmhgabpaaGreatPi
namespace Go.Proofs.YtjlmcnbmhgabpaaGreat
open Go.RowKit
set_option linter.unusedVariables false

/-- A function of the reader's reads so. -/
def Reads (N g d : Nat) (P : List Tk → Re Tr) : Prop := ∀ S w, Rp w g S d → Calls Tryz.prog N #[.pointer (some ⟨g, 0, none⟩)] w (TeE g d w (runP P S))

theorem not_true {N : Option (List Tk → Re Tr)} {U : List Tk → Re Tr} {t : Tk} {ts : List Tk} (h : takeB ⟨#[110, 111, 116]⟩ (.inr (t :: ts)) = true) : runP (notOf N U) (.inr (t :: ts)) = mapR (tOne 4) (inP N (t :: ts)) := by
  have h' : isTk ⟨#[110, 111, 116]⟩ (t :: ts) = true := h
  show notOf N U (t :: ts) = _
  rw [notOf, if_pos h']
  rfl
theorem not_false' {N : Option (List Tk → Re Tr)} {U : List Tk → Re Tr} {S : Sa} (h : takeB ⟨#[110, 111, 116]⟩ S = false) : runP (notOf N U) S = runP (compP U) S := by
  match S with
  | .inl x => rfl
  | .inr ts =>
    have h' : isTk ⟨#[110, 111, 116]⟩ ts = false := h
    show notOf N U ts = _
    rw [notOf, if_neg (by rw [h']; simp)]
    rfl

set_option maxRecDepth 100000 in
set_option maxHeartbeats 1000000 in
theorem pNot_any {g d : Nat} {N U : List Tk → Re Tr} (hd : d ≤ 64) (hN : d < 64 → Reads 130 g (d + 1) N) (hC : Reads 139 g d (compP U)) : Reads 130 g d (notOf (deepP d N) U) := by
  intro S w h
  have hgl := h.lt
  have hmf : ∀ (fn : Fn) (first cap : Array Value) (w : World), (Instr.makeFunc fn first cap).run Tryz.prog w = .ok (.func fn first cap) w := fun _ _ _ _ => rfl
  have b0 := Be.new w 0 nilP (.slice none 0 0)
  have h0 := h.alloc (.cells #[.int .i64 0, .int .i64 0, .int .i64 0, .string ⟨#[]⟩, .string ⟨#[]⟩, .string ⟨#[]⟩, .slice none 0 0] 80)
  have HI := pIs_any h0 ⟨#[110, 111, 116]⟩
  cases hB : takeB ⟨#[110, 111, 116]⟩ S with
  | true =>
    obtain ⟨t, ts, rfl, ht, -⟩ := takeB_true hB
    have HR : Hid _ := hid (not_true (N := deepP d N) (U := U) hB)
    rw [hB] at HI
    replace HI : Hid _ := hid HI
    generalize runP (notOf (deepP d N) U) (.inr (t :: ts)) = R at *
    clear hB h
    go_enter Tryz.func130, Tryz.ntmps130
    go_wp2_with fail
    refine Calls.mono HI.out ?_
    rintro e w1 ⟨rfl, hb1⟩
    have hr1 := h0.later hb1
    have hB1 : But g w w1 := (But.of hb1).behind
    have z1 := b0.later hb1
    have hsz1 : w.heap.size + 1 ≤ w1.heap.size := by have := hb1.size; simp at this; omega
    have HW : Hid _ := hid (pWithin_any (P := N) (v := .func (.func 130) #[.pointer (some ⟨g, 0, none⟩)] #[]) hr1 ht hd fun k => ⟨130, rfl, fun _ _ => by kernel_rfl, hN k⟩)
    generalize inP (deepP d N) (t :: ts) = R1 at *
    clear HI b0 hb1 h0 hr1
    go_wp2_with fail
    refine Calls.mono HW.out ?_
    rintro e w2 ⟨o2, p2, a2, l2, c2, rfl, hb2, hr2, hx2⟩
    have HO : Hid _ := hid (pOne_any 4 o2 p2 (.slice a2 l2 c2) w2)
    have z2 := z1.but hb2 (by omega)
    have hB2 := hB1.trans hb2
    have hsz2 := hb2.size
    clear HW z1 hB1
    unfold exV at HO ⊢
    go_wp2_with fail
    refine Calls.mono HO.out ?_
    rintro e w3 ⟨bb, rfl, hbb, hb3, hc3⟩
    have z3 := z2.later hb3
    have hB3 := hB2.later hb3
    have hr3 := hr2.later hb3
    have HX : Hid (∀ u r, R1 = .inr (u, r) → Ex (fun b => w.heap.size + 1 ≤ b) w3 (tOne 4 u) (exV 4 nilP (.slice (some ⟨bb, 0, none⟩) 1 1))) := hid fun u r e =>
      Ex.one (op := 4) (Q := fun b => w.heap.size + 1 ≤ b) (by omega) hc3 (((hx2 u r e).mono fun k hk _ => by omega).later hb3)
    obtain ⟨m0, m1, m2, m3, m4, m5, m6⟩ := z3.cells
    obtain ⟨n0, n1, n2, n3, n4, n5, n6⟩ := z3.free
    clear HO hb3 hc3 hx2 hb2 hr2 hB2 z2 z3
    go_wp2
    refine bodyPost_ret (v := exV 4 nilP (.slice (some ⟨bb, 0, none⟩) 1 1)) (by simp [results, Tryz.results130, go_sem, exV, nilP, m0, m1, m2, m3, m4, m5, m6]) rfl (TeE.fin hgl hB3 (by rw [HR.out, stO_mapR]; exact hr3) fun t' r e => ?_)
    rw [HR.out] at e
    obtain ⟨u, e2, rfl⟩ := mapR_inr e
    exact HX.out u r e2
  | false =>
    have HR : Hid _ := hid (not_false' (N := deepP d N) (U := U) hB)
    rw [hB] at HI
    replace HI : Hid _ := hid HI
    generalize runP (notOf (deepP d N) U) S = R at *
    clear hB h hN
    go_enter Tryz.func130, Tryz.ntmps130
    go_wp2_with fail
    refine Calls.mono HI.out ?_
    rintro e w1 ⟨rfl, hb1⟩
    have hr1 := h0.later hb1
    have hB1 : But g w w1 := (But.of hb1).behind
    have z1 := b0.later hb1
    have hsz1 : w.heap.size + 1 ≤ w1.heap.size := by have := hb1.size; simp at this; omega
    have HW : Hid _ := hid (hC S w1 hr1)
    clear HI b0 hb1 h0 hr1 hC
    go_wp2_with fail
    refine Calls.mono HW.out ?_
    rintro e w2 ⟨o2, p2, a2, l2, c2, rfl, hb2, hr2, hx2⟩
    have z2 := z1.but hb2 (by omega)
    have hB2 := hB1.trans hb2
    obtain ⟨m0, m1, m2, m3, m4, m5, m6⟩ := z2.cells
    obtain ⟨n0, n1, n2, n3, n4, n5, n6⟩ := z2.free
    clear HW z1 hB1 hb2 z2
    unfold exV
    go_wp2
    refine bodyPost_ret (v := exV o2 p2 (.slice a2 l2 c2)) (by simp [results, Tryz.results130, go_sem, exV, m0, m1, m2, m3, m4, m5, m6]) rfl (TeE.fin hgl hB2 (by rw [HR.out]; exact hr2) fun t' r e => ?_)
    rw [HR.out] at e
    exact (hx2 t' r e).mono fun k hk _ => by omega

/-- A word that must stand behind what was read. -/
def wantR {α : Type} (s : ByteArray) (R : Re α) : Re α := thenR R fun x r => if isTk s r then .inr (x, r.tail) else .inl (atOf r, 5)
theorem stO_wantR {α : Type} (s : ByteArray) (R : Re α) : stO (wantR s R) = wantS s (stO R) := by
  cases R with
  | inl x => rfl
  | inr x =>
    show stO (if isTk s x.2 then _ else _) = (if isTk s x.2 then _ else _)
    split <;> rfl
theorem wantR_inr {α : Type} {s : ByteArray} {R : Re α} {t : α} {r : List Tk} (h : wantR s R = .inr (t, r)) : ∃ r', R = .inr (t, r') := by
  cases R with
  | inl x => cases h
  | inr x =>
    have h' : (if isTk s x.2 then (.inr (x.1, x.2.tail) : Re α) else .inl (atOf x.2, 5)) = .inr (t, r) := h
    split at h'
    · cases h'; exact ⟨x.2, rfl⟩
    · cases h'
theorem unary_neg {U E : Option (List Tk → Re Tr)} {t : Tk} {ts : List Tk} (h : takeB ⟨#[45]⟩ (.inr (t :: ts)) = true) : runP (unaryOf U E) (.inr (t :: ts)) = mapR (tOne 3) (inP U (t :: ts)) := by
  have h' : isTk ⟨#[45]⟩ (t :: ts) = true := h
  show unaryOf U E (t :: ts) = _
  rw [unaryOf, if_pos h']
  rfl
theorem unary_par {U E : Option (List Tk → Re Tr)} {t : Tk} {ts : List Tk} (h : takeB ⟨#[45]⟩ (.inr (t :: ts)) = false) (k : takeB ⟨#[40]⟩ (.inr (t :: ts)) = true) : runP (unaryOf U E) (.inr (t :: ts)) = wantR ⟨#[41]⟩ (inP E (t :: ts)) := by
  have h' : isTk ⟨#[45]⟩ (t :: ts) = false := h
  have k' : isTk ⟨#[40]⟩ (t :: ts) = true := k
  show unaryOf U E (t :: ts) = _
  rw [unaryOf, if_neg (by rw [h']; simp), if_pos k']
  rfl
theorem unary_leaf {U E : Option (List Tk → Re Tr)} {S : Sa} (h : takeB ⟨#[45]⟩ S = false) (k : takeB ⟨#[40]⟩ S = false) : runP (unaryOf U E) S = runP leafP S := by
  match S with
  | .inl x => rfl
  | .inr ts =>
    have h' : isTk ⟨#[45]⟩ ts = false := h
    have k' : isTk ⟨#[40]⟩ ts = false := k
    show unaryOf U E ts = _
    rw [unaryOf, if_neg (by rw [h']; simp), if_neg (by rw [k']; simp)]
    rfl
theorem leaf_3 {S : Sa} (h : (nxT S).1 = 3) : runP leafP S = mapR (fun t => tInt t.2.2.1) (runP (kindP 3) S) := by
  match S with
  | .inl x => rfl
  | .inr [] => exact absurd h (by decide)
  | .inr (t :: ts) =>
    have h' : kdOf (t :: ts) = 3 := h
    show leafP (t :: ts) = _
    rw [leafP, if_pos h']
    rfl
theorem leaf_4 {S : Sa} (h : (nxT S).1 = 4) : runP leafP S = mapR (fun t => tText t.2.1) (runP (kindP 4) S) := by
  match S with
  | .inl x => rfl
  | .inr [] => exact absurd h (by decide)
  | .inr (t :: ts) =>
    have h' : kdOf (t :: ts) = 4 := h
    show leafP (t :: ts) = _
    rw [leafP, if_neg (by rw [h']; decide), if_pos h']
    rfl
theorem leaf_col {S : Sa} (h : (nxT S).1 ≠ 3) (k : (nxT S).1 ≠ 4) : runP leafP S = runP columnP S := by
  match S with
  | .inl x => rfl
  | .inr [] => rfl
  | .inr (t :: ts) =>
    have h' : kdOf (t :: ts) ≠ 3 := h
    have k' : kdOf (t :: ts) ≠ 4 := k
    show leafP (t :: ts) = _
    rw [leafP, if_neg h', if_neg k']
    rfl

set_option maxRecDepth 100000 in
set_option maxHeartbeats 2000000 in
theorem pUnary_any {g d : Nat} {U E : List Tk → Re Tr} (hd : d ≤ 64) (hU : d < 64 → Reads 152 g (d + 1) U) (hE : d < 64 → Reads 86 g (d + 1) E) : Reads 152 g d (unaryOf (deepP d U) (deepP d E)) := by
  intro S w h
  have hgl := h.lt
  have hmf : ∀ (fn : Fn) (first cap : Array Value) (w : World), (Instr.makeFunc fn first cap).run Tryz.prog w = .ok (.func fn first cap) w := fun _ _ _ _ => rfl
  have b0 := Be.new w 0 nilP (.slice none 0 0)
  have h0 := h.alloc (.cells #[.int .i64 0, .int .i64 0, .int .i64 0, .string ⟨#[]⟩, .string ⟨#[]⟩, .string ⟨#[]⟩, .slice none 0 0] 80)
  have HI := pIs_any h0 ⟨#[45]⟩
  cases hB : takeB ⟨#[45]⟩ S with
  | true =>
    obtain ⟨t, ts, rfl, ht, -⟩ := takeB_true hB
    have HR : Hid _ := hid (unary_neg (U := deepP d U) (E := deepP d E) hB)
    rw [hB] at HI
    replace HI : Hid _ := hid HI
    generalize runP (unaryOf (deepP d U) (deepP d E)) (.inr (t :: ts)) = R at *
    clear hB h hE
    go_enter Tryz.func152, Tryz.ntmps152
    go_wp2_with fail
    refine Calls.mono HI.out ?_
    rintro e w1 ⟨rfl, hb1⟩
    have hr1 := h0.later hb1
    have hB1 : But g w w1 := (But.of hb1).behind
    have z1 := b0.later hb1
    have hsz1 : w.heap.size + 1 ≤ w1.heap.size := by have := hb1.size; simp at this; omega
    have HW : Hid _ := hid (pWithin_any (P := U) (v := .func (.func 152) #[.pointer (some ⟨g, 0, none⟩)] #[]) hr1 ht hd fun k => ⟨152, rfl, fun _ _ => by kernel_rfl, hU k⟩)
    generalize inP (deepP d U) (t :: ts) = R1 at *
    clear HI b0 hb1 h0 hr1
    go_wp2_with fail
    refine Calls.mono HW.out ?_
    rintro e w2 ⟨o2, p2, a2, l2, c2, rfl, hb2, hr2, hx2⟩
    have HO : Hid _ := hid (pOne_any 3 o2 p2 (.slice a2 l2 c2) w2)
    have z2 := z1.but hb2 (by omega)
    have hB2 := hB1.trans hb2
    have hsz2 := hb2.size
    clear HW z1 hB1
    unfold exV at HO ⊢
    go_wp2_with fail
    refine Calls.mono HO.out ?_
    rintro e w3 ⟨bb, rfl, hbb, hb3, hc3⟩
    have z3 := z2.later hb3
    have hB3 := hB2.later hb3
    have hr3 := hr2.later hb3
    have HX : Hid (∀ u r, R1 = .inr (u, r) → Ex (fun b => w.heap.size + 1 ≤ b) w3 (tOne 3 u) (exV 3 nilP (.slice (some ⟨bb, 0, none⟩) 1 1))) := hid fun u r e =>
      Ex.one (op := 3) (Q := fun b => w.heap.size + 1 ≤ b) (by omega) hc3 (((hx2 u r e).mono fun k hk _ => by omega).later hb3)
    obtain ⟨m0, m1, m2, m3, m4, m5, m6⟩ := z3.cells
    obtain ⟨n0, n1, n2, n3, n4, n5, n6⟩ := z3.free
    clear HO hb3 hc3 hx2 hb2 hr2 hB2 z2 z3
    go_wp2
    refine bodyPost_ret (v := exV 3 nilP (.slice (some ⟨bb, 0, none⟩) 1 1)) (by simp [results, Tryz.results152, go_sem, exV, nilP, m0, m1, m2, m3, m4, m5, m6]) rfl (TeE.fin hgl hB3 (by rw [HR.out, stO_mapR]; exact hr3) fun t' r e => ?_)
    rw [HR.out] at e
    obtain ⟨u, e2, rfl⟩ := mapR_inr e
    exact HX.out u r e2
  | false =>
    have HI2 : Hid (∀ w', Rp w' g S d → _) := hid fun w' hr => pIs_any hr ⟨#[40]⟩
    rw [hB] at HI
    replace HI : Hid _ := hid HI
    clear h
    cases hP : takeB ⟨#[40]⟩ S with
    | true =>
      rw [hP] at HI2
      obtain ⟨t, ts, rfl, ht, -⟩ := takeB_true hP
      have HR : Hid _ := hid (unary_par (U := deepP d U) (E := deepP d E) hB hP)
      generalize runP (unaryOf (deepP d U) (deepP d E)) (.inr (t :: ts)) = R at *
      clear hB hP hU
      go_enter Tryz.func152, Tryz.ntmps152
      go_wp2_with fail
      refine Calls.mono HI.out ?_
      rintro e w1 ⟨rfl, hb1⟩
      have hr1 := h0.later hb1
      have H2 : Hid _ := hid (HI2.out w1 hr1)
      clear HI HI2
      go_wp2_with fail
      refine Calls.mono H2.out ?_
      rintro e w2 ⟨rfl, hb2⟩
      have hr2 := hr1.later hb2
      have hb := Below.on hb1 hb2
      have hB2 : But g w w2 := (But.of hb).behind
      have z2 := b0.later hb
      have hsz2 : w.heap.size + 1 ≤ w2.heap.size := by have := hb.size; simp at this; omega
      have HW : Hid _ := hid (pWithin_any (P := E) (v := .func (.func 86) #[.pointer (some ⟨g, 0, none⟩)] #[]) hr2 ht hd fun k => ⟨86, rfl, fun _ _ => by kernel_rfl, hE k⟩)
      generalize inP (deepP d E) (t :: ts) = R1 at *
      clear H2 b0 hb1 hb2 hb h0 hr1 hr2
      go_wp2_with fail
      refine Calls.mono HW.out ?_
      rintro e w3 ⟨o3, p3, a3, l3, c3, rfl, hb3, hr3, hx3⟩
      have z3 := z2.but hb3 (by omega)
      have hB3 := hB2.trans hb3
      have hsz3 := hb3.size
      have hr4 := (hr3.alloc (.cells #[.int .i64 o3, .int .i64 p3.1, .int .i64 p3.2.1, .string p3.2.2.1, .string p3.2.2.2.1, .string p3.2.2.2.2, .slice a3 l3 c3] 80)).alloc (.cells #[.string ⟨#[41]⟩] 9)
      have x4 := (Be.new w3 o3 p3 (.slice a3 l3 c3)).later (bal (Below.refl _ _) (.cells #[.string ⟨#[41]⟩] 9))
      have z4 := z3.later (bal (bal (Below.refl _ _) (.cells #[.int .i64 o3, .int .i64 p3.1, .int .i64 p3.2.1, .string p3.2.2.1, .string p3.2.2.2.1, .string p3.2.2.2.2, .slice a3 l3 c3] 80)) (.cells #[.string ⟨#[41]⟩] 9))
      have hB4 := (hB3.alloc (.cells #[.int .i64 o3, .int .i64 p3.1, .int .i64 p3.2.1, .string p3.2.2.1, .string p3.2.2.2.1, .string p3.2.2.2.2, .slice a3 l3 c3] 80)).alloc (.cells #[.string ⟨#[41]⟩] 9)
      have HX4 : Hid (∀ u r, R1 = .inr (u, r) → Ex (fun b => w.heap.size + 1 ≤ b) _ u (exV o3 p3 (.slice a3 l3 c3))) := hid fun u r e => ((hx3 u r e).mono fun k hk _ => by omega).later (bal (bal (Below.refl _ _) (.cells #[.int .i64 o3, .int .i64 p3.1, .int .i64 p3.2.1, .string p3.2.2.1, .string p3.2.2.2.1, .string p3.2.2.2.2, .slice a3 l3 c3] 80)) (.cells #[.string ⟨#[41]⟩] 9))
      have HQ : Hid _ := hid (pWant_any (b := w3.heap.size + 1) hr4 [⟨#[41]⟩] (by decide) (by omega) (by
        intro i hi
        match i, hi with
        | 0, _ => simp [go_sem]))
      rw [show [(⟨#[41]⟩ : ByteArray)].length = 1 from rfl, show wantsS [⟨#[41]⟩] (stO R1) = wantS ⟨#[41]⟩ (stO R1) from rfl] at HQ
      have hq3 : w.heap.size < w3.heap.size := by omega
      clear HW hb3 hr3 hx3 z2 z3 hB2 hB3 hr4
      unfold exV
      go_wp2_with fail
      refine Calls.mono HQ.out ?_
      rintro e w5 ⟨rfl, hr5, hb5⟩
      have x5 := x4.but hb5 (by omega)
      have z5 := z4.but hb5 (by omega)
      have hB5 := hB4.trans hb5
      have HX5 : Hid _ := hid fun u r e => (HX4.out u r e).but hb5 (by omega)
      obtain ⟨k0, k1, k2, k3, k4, k5, k6⟩ := x5.cells
      rw [Nat.zero_add] at k1 k2 k3 k4 k5 k6
      obtain ⟨m0, m1, m2, m3, m4, m5, m6⟩ := z5.cells
      obtain ⟨n0, n1, n2, n3, n4, n5, n6⟩ := z5.free
      clear HQ HX4 hb5 hB4 x4 z4 x5 z5
      go_wp2
      refine bodyPost_ret (v := exV o3 p3 (.slice a3 l3 c3)) (by simp [results, Tryz.results152, go_sem, exV, m0, m1, m2, m3, m4, m5, m6]) rfl (TeE.fin hgl hB5 (by rw [HR.out, stO_wantR]; exact hr5) fun t' r e => ?_)
      rw [HR.out] at e
      obtain ⟨r', e2⟩ := wantR_inr e
      exact HX5.out t' r' e2
    | false =>
      rw [hP] at HI2
      have HR : Hid _ := hid (unary_leaf (U := deepP d U) (E := deepP d E) hB hP)
      generalize runP (unaryOf (deepP d U) (deepP d E)) S = R at *
      have HN : Hid (∀ w', Rp w' g S d → _) := hid fun w' hr => pNext_any hr
      have H3 : Hid _ := hid (leaf_3 (S := S))
      have H4 : Hid _ := hid (leaf_4 (S := S))
      have H5 : Hid _ := hid (leaf_col (S := S))
      unfold tkA at HN
      generalize nxT S = t at *
      obtain ⟨t0, t1, t2, t3⟩ := t
      have hf := fld_kind
      clear hB hP hU hE
      go_enter Tryz.func152, Tryz.ntmps152
      go_wp2_with fail
      refine Calls.mono HI.out ?_
      rintro e w1 ⟨rfl, hb1⟩
      have hr1 := h0.later hb1
      have H2 : Hid _ := hid (HI2.out w1 hr1)
      clear HI HI2
      go_wp2_with fail
      refine Calls.mono H2.out ?_
      rintro e w2 ⟨rfl, hb2⟩
      have hr2 := hr1.later hb2
      have hb := Below.on hb1 hb2
      have HN2 : Hid _ := hid (HN.out w2 hr2)
      clear H2 HN hb1 hb2 hr1
      go_wp2_with fail
      refine Calls.mono HN2.out ?_
      rintro e w3 ⟨rfl, hb3⟩
      have hr3 := hr2.later hb3
      have hb4 := Below.on hb hb3
      have hB3 : But g w w3 := (But.of hb4).behind
      have z3 := b0.later hb4
      have hsz3 : w.heap.size + 1 ≤ w3.heap.size := by have := hb4.size; simp at this; omega
      clear HN2 hb hb3 hb4 b0 h0 hr2
      by_cases k3 : t0 = 3
      · subst k3
        have E1 : Hid _ := hid (H3.out rfl)
        have HK : Hid _ := hid (pKind_any hr3 3 (by decide) (by decide))
        generalize runP (kindP 3) S = R1 at *
        have hfi := fld_int
        clear H3 H4 H5
        go_wp2_with fail
        refine Calls.mono HK.out ?_
        rintro e w4 ⟨t, rfl, hb5, hr5, hu5⟩
        have z5 := z3.but hb5 (by omega)
        have hB5 := hB3.trans hb5
        obtain ⟨m0, m1, m2, m3, m4, m5, m6⟩ := z5.cells
        obtain ⟨n0, n1, n2, n3, n4, n5, n6⟩ := z5.free
        clear HK hb5 hB3 z3 z5 hr3
        unfold tkA
        go_wp2
        refine bodyPost_ret (v := exV 1 (1, t.2.2.1, ⟨#[]⟩, ⟨#[]⟩, ⟨#[]⟩) (.slice none 0 0)) (by simp [results, Tryz.results152, go_sem, exV, m0, m1, m2, m3, m4, m5, m6]) rfl (TeE.fin hgl hB5 (by rw [HR.out, E1.out, stO_mapR]; exact hr5) fun t' r e => ?_)
        rw [HR.out, E1.out] at e
        obtain ⟨u, e2, rfl⟩ := mapR_inr e
        obtain rfl := hu5 u r e2
        exact Ex.leaf 0 1 _
      · have g3 : (t0 == 3) = false := by simpa using k3
        by_cases k4 : t0 = 4
        · subst k4
          have E1 : Hid _ := hid (H4.out rfl)
          have HK : Hid _ := hid (pKind_any hr3 4 (by decide) (by decide))
          generalize runP (kindP 4) S = R1 at *
          have hfi := fld_text
          clear H3 H4 H5 k3 g3
          go_wp2_with fail
          refine Calls.mono HK.out ?_
          rintro e w4 ⟨t, rfl, hb5, hr5, hu5⟩
          have z5 := z3.but hb5 (by omega)
          have hB5 := hB3.trans hb5
          obtain ⟨m0, m1, m2, m3, m4, m5, m6⟩ := z5.cells
          obtain ⟨n0, n1, n2, n3, n4, n5, n6⟩ := z5.free
          clear HK hb5 hB3 z3 z5 hr3
          unfold tkA
          go_wp2
          refine bodyPost_ret (v := exV 1 (2, 0, t.2.1, ⟨#[]⟩, ⟨#[]⟩) (.slice none 0 0)) (by simp [results, Tryz.results152, go_sem, exV, m0, m1, m2, m3, m4, m5, m6]) rfl (TeE.fin hgl hB5 (by rw [HR.out, E1.out, stO_mapR]; exact hr5) fun t' r e => ?_)
          rw [HR.out, E1.out] at e
          obtain ⟨u, e2, rfl⟩ := mapR_inr e
          obtain rfl := hu5 u r e2
          exact Ex.leaf 0 1 _
        · have g4 : (t0 == 4) = false := by simpa using k4
          have E1 : Hid _ := hid (H5.out k3 k4)
          have HK : Hid _ := hid (pColumn_any hr3)
          generalize runP columnP S = R1 at *
          clear H3 H4 H5 k3 k4
          go_wp2_with fail
          refine Calls.mono HK.out ?_
          rintro e w4 ⟨o2, p2, a2, l2, c2, rfl, hb5, hr5, hx5⟩
          have z5 := z3.but hb5 (by omega)
          have hB5 := hB3.trans hb5
          obtain ⟨m0, m1, m2, m3, m4, m5, m6⟩ := z5.cells
          obtain ⟨n0, n1, n2, n3, n4, n5, n6⟩ := z5.free
          clear HK hb5 hB3 z3 z5 hr3
          unfold exV
          go_wp2
          refine bodyPost_ret (v := exV o2 p2 (.slice a2 l2 c2)) (by simp [results, Tryz.results152, go_sem, exV, m0, m1, m2, m3, m4, m5, m6]) rfl (TeE.fin hgl hB5 (by rw [HR.out, E1.out]; exact hr5) fun t' r e => ?_)
          rw [HR.out, E1.out] at e
          exact (hx5 t' r e).mono fun k hk _ => by omega

end Go.Proofs.YtjlmcnbmhgabpaaGreat
