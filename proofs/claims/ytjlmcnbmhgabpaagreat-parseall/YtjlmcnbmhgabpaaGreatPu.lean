/- The walks of change, create, stmt. -/
import Derived.Test.YtjlmcnbmhgabpaaGreatPt
namespace Go.Proofs.YtjlmcnbmhgabpaaGreat
open Go.RowKit
set_option linter.unusedVariables false

/-- If that word stands there, this; else that. -/
def dispP {α : Type} (s : ByteArray) (P Q : List Tk → Re α) (ts : List Tk) : Re α := if isTk s ts then P ts.tail else Q ts
theorem disp_true {α : Type} {s : ByteArray} {P Q : List Tk → Re α} {S : Sa} (h : takeB s S = true) : runP (dispP s P Q) S = runP P (takeS s S) := by
  match S with
  | .inl x => cases h
  | .inr ts =>
    have h' : isTk s ts = true := h
    show dispP s P Q ts = runP P (if isTk s ts then .inr ts.tail else .inr ts)
    rw [dispP, if_pos h', if_pos h']
    rfl
theorem disp_false {α : Type} {s : ByteArray} {P Q : List Tk → Re α} {S : Sa} (h : takeB s S = false) : runP (dispP s P Q) S = runP Q S := by
  match S with
  | .inl x => rfl
  | .inr ts =>
    have h' : isTk s ts = false := h
    show dispP s P Q ts = _
    rw [dispP, if_neg (by rw [h']; simp)]
    rfl
def failP {α : Type} (ts : List Tk) : Re α := .inl (atOf ts, 5)
theorem fail_run {α : Type} (S : Sa) : stO (runP (failP (α := α)) S) = failS 5 S ∧ ∀ m r, runP (failP (α := α)) S ≠ .inr (m, r) := by
  cases S with
  | inl x => exact ⟨rfl, fun m r e => by cases e⟩
  | inr ts => exact ⟨rfl, fun m r e => by cases e⟩
/-- That word stands there, and is not read. -/
def isP {α : Type} (s : ByteArray) (P Q : List Tk → Re α) (ts : List Tk) : Re α := if isTk s ts then P ts else Q ts
theorem is_true {α : Type} {s : ByteArray} {P Q : List Tk → Re α} {S : Sa} (h : takeB s S = true) : runP (isP s P Q) S = runP P S := by
  match S with
  | .inl x => cases h
  | .inr ts =>
    have h' : isTk s ts = true := h
    show isP s P Q ts = _
    rw [isP, if_pos h']
    rfl
theorem is_false {α : Type} {s : ByteArray} {P Q : List Tk → Re α} {S : Sa} (h : takeB s S = false) : runP (isP s P Q) S = runP Q S := by
  match S with
  | .inl x => rfl
  | .inr ts =>
    have h' : isTk s ts = false := h
    show isP s P Q ts = _
    rw [isP, if_neg (by rw [h']; simp)]
    rfl
def changeP : List Tk → Re Sm := dispP ⟨#[105, 110, 115, 101, 114, 116]⟩ insertP (dispP ⟨#[117, 112, 100, 97, 116, 101]⟩ updateP (dispP ⟨#[100, 101, 108, 101, 116, 101]⟩ deleteP failP))
/-- A statement that has none in it. -/
def plain (P : List Tk → Re Sm) (ts : List Tk) : Re Sf := mapR (fun m => (m, [])) (P ts)
theorem plain_run (P : List Tk → Re Sm) (S : Sa) : runP (plain P) S = mapR (fun m => (m, [])) (runP P S) := by cases S <;> rfl
def createP : List Tk → Re Sf := dispP ⟨#[116, 97, 98, 108, 101]⟩ (plain tableP) (dispP ⟨#[105, 110, 100, 101, 120]⟩ (plain indexP) (dispP ⟨#[118, 105, 101, 119]⟩ (doorP 3 queryP) (dispP ⟨#[99, 108, 111, 115, 117, 114, 101]⟩ (doorP 4 changeP) failP)))
def onlyP (k : Int) (ts : List Tk) : Re Sf := .inr ((sm k, []), ts)
theorem only_run (k : Int) (S : Sa) : stO (runP (onlyP k) S) = S ∧ ∀ m r, runP (onlyP k) S = .inr (m, r) → m = (sm k, []) := by
  cases S with
  | inl x => exact ⟨rfl, fun m r e => by cases e⟩
  | inr ts => exact ⟨rfl, fun m r e => by cases e; rfl⟩
def raiseP (ts : List Tk) : Re Sf := mapR (fun l => (up_ta (sm 12) l, [])) (listP tagP ts)
theorem raise_run (S : Sa) : runP raiseP S = mapR (fun l => (up_ta (sm 12) l, [])) (runP (listP tagP) S) := by cases S <;> rfl
def callP (ts : List Tk) : Re Sf := mapR (fun x => (up_nm (sm 13) x, [])) (nameP ts)
theorem call_run (S : Sa) : runP callP S = mapR (fun x => (up_nm (sm 13) x, [])) (runP nameP S) := by cases S <;> rfl
def stmtP : List Tk → Re Sf := dispP ⟨#[99, 114, 101, 97, 116, 101]⟩ createP (isP ⟨#[115, 101, 108, 101, 99, 116]⟩ (plain queryP) (dispP ⟨#[98, 101, 103, 105, 110]⟩ (onlyP 9) (dispP ⟨#[99, 111, 109, 109, 105, 116]⟩ (onlyP 10) (dispP ⟨#[114, 111, 108, 108, 98, 97, 99, 107]⟩ (onlyP 11) (dispP ⟨#[114, 97, 105, 115, 101]⟩ raiseP (dispP ⟨#[99, 97, 108, 108]⟩ callP (plain changeP)))))))
theorem part_query (g : Nat) : PartV g (TeS g) queryP (.func (.func 39) #[.pointer (some ⟨g, 0, none⟩)] #[]) := ⟨39, rfl, fun _ _ => by kernel_rfl, fun S w h => pQuery_any h⟩
/-- The result's block, and all else, behind some takes. -/
structure Wait (g : Nat) (w w1 : World) (S : Sa) : Prop where
  but : But g w w1
  rp : Rp w1 g S 0
  zero : Bs w1 w.heap.size (zS 0)
theorem Wait.lt {g : Nat} {w w1 : World} {S : Sa} (h : Wait g w w1 S) : w.heap.size + 1 ≤ w1.heap.size := by have := h.zero.lt; omega
theorem Wait.start {g : Nat} {w : World} {S : Sa} (h : Rp w g S 0) : Wait g w (w.alloc (.cells #[.int .i64 0, .string ⟨#[]⟩, .string ⟨#[]⟩, .slice none 0 0, .slice none 0 0, .slice none 0 0, .slice none 0 0, .string ⟨#[]⟩, .slice none 0 0, .slice none 0 0, .slice none 0 0, .bool false, .slice none 0 0] 29)) S := ⟨(But.refl g w).alloc _, h.alloc _, Bs.new w (zS 0)⟩
theorem Wait.on {g : Nat} {w w1 w2 : World} {S S' : Sa} (h : Wait g w w1 S) (hg : g < w.heap.size) (hr : Rp w2 g S' 0) (hb : But g w1 w2) : Wait g w w2 S' := ⟨h.but.trans hb, hr, h.zero.but hb (by omega)⟩
theorem Wait.tes {g : Nat} {w w1 w2 : World} {S : Sa} {P : List Tk → Re Sm} {R : Re Sm} {s : Sv} (h : Wait g w w1 S) (hg : g < w.heap.size) (hR : R = runP P S) (hb : But g w1 w2) (hr : Rp w2 g (stO (runP P S)) 0)
    (hx : ∀ m r, runP P S = .inr (m, r) → IsS (fun b => w1.heap.size ≤ b) w2 m s ∧ s.inn = (none, 0, 0)) : TeS g w R (.returned (stV s)) (set13 w2 w.heap.size s) := by
  subst hR
  exact TeS.fin2 hg (h.but.trans hb) hr fun m r e => ⟨(hx m r e).1.mono fun b hb _ => by have := h.lt; omega, (hx m r e).2⟩
theorem Wait.tef {g : Nat} {w w1 w2 : World} {S : Sa} {P : List Tk → Re Sf} {R : Re Sf} {s : Sv} (h : Wait g w w1 S) (hg : g < w.heap.size) (hR : R = runP P S) (hb : But g w1 w2) (hr : Rp w2 g (stO (runP P S)) 0)
    (hx : ∀ m r, runP P S = .inr (m, r) → IsS (fun b => w1.heap.size ≤ b) w2 m.1 s ∧ RowIs eStmt (fun b => w1.heap.size ≤ b) w2 (slV s.inn) m.2) : TeF g w R (.returned (stV s)) (set13 w2 w.heap.size s) := by
  subst hR
  exact TeF.fin hg (h.but.trans hb) hr fun m r e => ⟨(hx m r e).1.mono fun b hb _ => by have := h.lt; omega, (hx m r e).2.mono (by decide) fun b hb _ => by have := h.lt; omega⟩
theorem Wait.teg {g : Nat} {w w1 w2 : World} {S : Sa} {P : List Tk → Re Sm} {R : Re Sf} {s : Sv} (h : Wait g w w1 S) (hg : g < w.heap.size) (hR : R = runP (plain P) S) (hb : But g w1 w2) (hr : Rp w2 g (stO (runP P S)) 0)
    (hx : ∀ m r, runP P S = .inr (m, r) → IsS (fun b => w1.heap.size ≤ b) w2 m s ∧ s.inn = (none, 0, 0)) : TeF g w R (.returned (stV s)) (set13 w2 w.heap.size s) := by
  refine h.tef (P := plain P) hg hR hb (by rw [plain_run, stO_mapR]; exact hr) fun m r e => ?_
  rw [plain_run] at e
  obtain ⟨u, e2, rfl⟩ := mapR_inr e
  obtain ⟨h1, h2⟩ := hx u r e2
  exact ⟨h1, by rw [h2]; exact RowIs.nil _ _ _⟩

set_option maxRecDepth 100000 in
set_option maxHeartbeats 8000000 in
theorem pChange_any {g : Nat} {S : Sa} {w : World} (h : Rp w g S 0) : Calls Tryz.prog 43 #[.pointer (some ⟨g, 0, none⟩)] w (TeS g w (runP changeP S)) := by
  have hgl := h.lt
  have hmf : ∀ (fn : Fn) (first cap : Array Value) (w : World), (Instr.makeFunc fn first cap).run Tryz.prog w = .ok (.func fn first cap) w := fun _ _ _ _ => rfl
  have K0 : Wait g w (w.alloc (.cells #[.int .i64 0, .string ⟨#[]⟩, .string ⟨#[]⟩, .slice none 0 0, .slice none 0 0, .slice none 0 0, .slice none 0 0, .string ⟨#[]⟩, .slice none 0 0, .slice none 0 0, .slice none 0 0, .bool false, .slice none 0 0] 29)) S := Wait.start h
  have E0 : Hid (runP changeP S = runP changeP S) := hid rfl
  generalize hRR : runP changeP S = RR at *
  replace E0 : Hid (RR = runP changeP S) := hid hRR.symm
  unfold changeP at E0
  clear h hRR
  go_enter Tryz.func43, Tryz.ntmps43
  have HT1 := pTake_any K0.rp ⟨#[105, 110, 115, 101, 114, 116]⟩
  cases hb1 : takeB ⟨#[105, 110, 115, 101, 114, 116]⟩ S with
  | true =>
    rw [hb1] at HT1
    replace HT1 : Hid _ := hid HT1
    have E1 : Hid _ := hid (E0.out.trans (disp_true hb1))
    clear hb1 E0
    go_wp2_with fail
    refine Calls.mono HT1.out ?_
    rintro e w1 ⟨rfl, hr, hb⟩
    have K1 := K0.on hgl hr hb
    clear HT1 K0 hr hb
    have HC : Hid _ := hid (pInsert_any K1.rp)
    go_wp2_with fail
    refine Calls.mono HC.out ?_
    rintro e w2 ⟨s, rfl, hb, hr, hx⟩
    have T : Hid _ := hid (K1.tes hgl E1.out hb hr hx)
    have z := K1.zero.but hb (by omega)
    clear HC hb hr hx K1 E1
    unfold stV
    obtain ⟨m0, m1, m2, m3, m4, m5, m6, m7, m8, m9, m10, m11, m12⟩ := z.cells
    obtain ⟨n0, n1, n2, n3, n4, n5, n6, n7, n8, n9, n10, n11, n12⟩ := z.free
    clear z
    go_wp2
    refine bodyPost_ret (v := stV s) (by simp [results, Tryz.results43, go_sem, stV, m0, m1, m2, m3, m4, m5, m6, m7, m8, m9, m10, m11, m12]) rfl ?_
    exact T.out
  | false =>
    rw [hb1, takeB_false hb1] at HT1
    replace HT1 : Hid _ := hid HT1
    have E1 : Hid _ := hid (E0.out.trans (disp_false hb1))
    clear hb1 E0
    go_wp2_with fail
    refine Calls.mono HT1.out ?_
    rintro e w1 ⟨rfl, hr, hb⟩
    have K1 := K0.on hgl hr hb
    clear HT1 K0 hr hb
    have HT2 := pTake_any K1.rp ⟨#[117, 112, 100, 97, 116, 101]⟩
    cases hb2 : takeB ⟨#[117, 112, 100, 97, 116, 101]⟩ S with
    | true =>
      rw [hb2] at HT2
      replace HT2 : Hid _ := hid HT2
      have E2 : Hid _ := hid (E1.out.trans (disp_true hb2))
      clear hb2 E1
      go_wp2_with fail
      refine Calls.mono HT2.out ?_
      rintro e w2 ⟨rfl, hr, hb⟩
      have K2 := K1.on hgl hr hb
      clear HT2 K1 hr hb
      have HC : Hid _ := hid (pUpdate_any K2.rp)
      go_wp2_with fail
      refine Calls.mono HC.out ?_
      rintro e w3 ⟨s, rfl, hb, hr, hx⟩
      have T : Hid _ := hid (K2.tes hgl E2.out hb hr hx)
      have z := K2.zero.but hb (by omega)
      clear HC hb hr hx K2 E2
      unfold stV
      obtain ⟨m0, m1, m2, m3, m4, m5, m6, m7, m8, m9, m10, m11, m12⟩ := z.cells
      obtain ⟨n0, n1, n2, n3, n4, n5, n6, n7, n8, n9, n10, n11, n12⟩ := z.free
      clear z
      go_wp2
      refine bodyPost_ret (v := stV s) (by simp [results, Tryz.results43, go_sem, stV, m0, m1, m2, m3, m4, m5, m6, m7, m8, m9, m10, m11, m12]) rfl ?_
      exact T.out
    | false =>
      rw [hb2, takeB_false hb2] at HT2
      replace HT2 : Hid _ := hid HT2
      have E2 : Hid _ := hid (E1.out.trans (disp_false hb2))
      clear hb2 E1
      go_wp2_with fail
      refine Calls.mono HT2.out ?_
      rintro e w2 ⟨rfl, hr, hb⟩
      have K2 := K1.on hgl hr hb
      clear HT2 K1 hr hb
      have HT3 := pTake_any K2.rp ⟨#[100, 101, 108, 101, 116, 101]⟩
      cases hb3 : takeB ⟨#[100, 101, 108, 101, 116, 101]⟩ S with
      | true =>
        rw [hb3] at HT3
        replace HT3 : Hid _ := hid HT3
        have E3 : Hid _ := hid (E2.out.trans (disp_true hb3))
        clear hb3 E2
        go_wp2_with fail
        refine Calls.mono HT3.out ?_
        rintro e w3 ⟨rfl, hr, hb⟩
        have K3 := K2.on hgl hr hb
        clear HT3 K2 hr hb
        have HC : Hid _ := hid (pDelete_any K3.rp)
        go_wp2_with fail
        refine Calls.mono HC.out ?_
        rintro e w4 ⟨s, rfl, hb, hr, hx⟩
        have T : Hid _ := hid (K3.tes hgl E3.out hb hr hx)
        have z := K3.zero.but hb (by omega)
        clear HC hb hr hx K3 E3
        unfold stV
        obtain ⟨m0, m1, m2, m3, m4, m5, m6, m7, m8, m9, m10, m11, m12⟩ := z.cells
        obtain ⟨n0, n1, n2, n3, n4, n5, n6, n7, n8, n9, n10, n11, n12⟩ := z.free
        clear z
        go_wp2
        refine bodyPost_ret (v := stV s) (by simp [results, Tryz.results43, go_sem, stV, m0, m1, m2, m3, m4, m5, m6, m7, m8, m9, m10, m11, m12]) rfl ?_
        exact T.out
      | false =>
        rw [hb3, takeB_false hb3] at HT3
        replace HT3 : Hid _ := hid HT3
        have E3 : Hid _ := hid (E2.out.trans (disp_false hb3))
        clear hb3 E2
        go_wp2_with fail
        refine Calls.mono HT3.out ?_
        rintro e w3 ⟨rfl, hr, hb⟩
        have K3 := K2.on hgl hr hb
        clear HT3 K2 hr hb
        obtain ⟨q1, q2⟩ := fail_run (α := Sm) S
        have HC : Hid _ := hid (pFail_any K3.rp 5 (by decide))
        have Q1 : Hid _ := hid q1
        have Q2 : Hid _ := hid q2
        clear q1 q2
        go_wp2_with fail
        refine Calls.mono HC.out ?_
        rintro e w4 ⟨rfl, hr, hb⟩
        have T : Hid _ := hid (TeS.fin2 (s := zS 0) hgl (K3.but.trans hb) (by rw [E3.out, Q1.out]; exact hr) fun m r e => absurd (E3.out ▸ e) (Q2.out m r))
        have z := K3.zero.but hb (by omega)
        clear HC hb hr K3 E3 Q1 Q2
        obtain ⟨m0, m1, m2, m3, m4, m5, m6, m7, m8, m9, m10, m11, m12⟩ := z.cells
        obtain ⟨n0, n1, n2, n3, n4, n5, n6, n7, n8, n9, n10, n11, n12⟩ := z.free
        clear z
        go_wp2
        refine bodyPost_ret (v := stV (zS 0)) (by simp [results, Tryz.results43, go_sem, stV, m0, m1, m2, m3, m4, m5, m6, m7, m8, m9, m10, m11, m12]) rfl ?_
        exact T.out

theorem part_change (g : Nat) : PartV g (TeS g) changeP (.func (.func 43) #[.pointer (some ⟨g, 0, none⟩)] #[]) := ⟨43, rfl, fun _ _ => by kernel_rfl, fun S w h => pChange_any h⟩
theorem TeF.fin2 {g : Nat} {w w1 : World} {R : Re Sf} {s : Sv} (hg : g < w.heap.size) (hB : But g w w1) (hr : Rp w1 g (stO R) 0)
    (hx : ∀ m r, R = .inr (m, r) → IsS (fun b => w.heap.size + 1 ≤ b) w1 m.1 s ∧ RowIs eStmt (fun b => w.heap.size + 1 ≤ b) w1 (slV s.inn) m.2) : TeF g w R (.returned (stV s)) (set13 w1 w.heap.size s) := TeF.fin hg hB hr hx

set_option maxRecDepth 100000 in
set_option maxHeartbeats 8000000 in
theorem pCreate_any {g : Nat} {S : Sa} {w : World} (h : Rp w g S 0) : Calls Tryz.prog 37 #[.pointer (some ⟨g, 0, none⟩)] w (TeF g w (runP createP S)) := by
  have hgl := h.lt
  have hmf : ∀ (fn : Fn) (first cap : Array Value) (w : World), (Instr.makeFunc fn first cap).run Tryz.prog w = .ok (.func fn first cap) w := fun _ _ _ _ => rfl
  have K0 : Wait g w (w.alloc (.cells #[.int .i64 0, .string ⟨#[]⟩, .string ⟨#[]⟩, .slice none 0 0, .slice none 0 0, .slice none 0 0, .slice none 0 0, .string ⟨#[]⟩, .slice none 0 0, .slice none 0 0, .slice none 0 0, .bool false, .slice none 0 0] 29)) S := Wait.start h
  have E0 : Hid (runP createP S = runP createP S) := hid rfl
  generalize hRR : runP createP S = RR at *
  replace E0 : Hid (RR = runP createP S) := hid hRR.symm
  unfold createP at E0
  clear h hRR
  go_enter Tryz.func37, Tryz.ntmps37
  have HT1 := pTake_any K0.rp ⟨#[116, 97, 98, 108, 101]⟩
  cases hb1 : takeB ⟨#[116, 97, 98, 108, 101]⟩ S with
  | true =>
    rw [hb1] at HT1
    replace HT1 : Hid _ := hid HT1
    have E1 : Hid _ := hid (E0.out.trans (disp_true hb1))
    clear hb1 E0
    go_wp2_with fail
    refine Calls.mono HT1.out ?_
    rintro e w1 ⟨rfl, hr, hb⟩
    have K1 := K0.on hgl hr hb
    clear HT1 K0 hr hb
    have HC : Hid _ := hid (pTable_any K1.rp)
    go_wp2_with fail
    refine Calls.mono HC.out ?_
    rintro e w2 ⟨s, rfl, hb, hr, hx⟩
    have T : Hid _ := hid (K1.teg hgl E1.out hb hr hx)
    have z := K1.zero.but hb (by omega)
    clear HC hb hr hx K1 E1
    unfold stV
    obtain ⟨m0, m1, m2, m3, m4, m5, m6, m7, m8, m9, m10, m11, m12⟩ := z.cells
    obtain ⟨n0, n1, n2, n3, n4, n5, n6, n7, n8, n9, n10, n11, n12⟩ := z.free
    clear z
    go_wp2
    refine bodyPost_ret (v := stV s) (by simp [results, Tryz.results37, go_sem, stV, m0, m1, m2, m3, m4, m5, m6, m7, m8, m9, m10, m11, m12]) rfl ?_
    exact T.out
  | false =>
    rw [hb1, takeB_false hb1] at HT1
    replace HT1 : Hid _ := hid HT1
    have E1 : Hid _ := hid (E0.out.trans (disp_false hb1))
    clear hb1 E0
    go_wp2_with fail
    refine Calls.mono HT1.out ?_
    rintro e w1 ⟨rfl, hr, hb⟩
    have K1 := K0.on hgl hr hb
    clear HT1 K0 hr hb
    have HT2 := pTake_any K1.rp ⟨#[105, 110, 100, 101, 120]⟩
    cases hb2 : takeB ⟨#[105, 110, 100, 101, 120]⟩ S with
    | true =>
      rw [hb2] at HT2
      replace HT2 : Hid _ := hid HT2
      have E2 : Hid _ := hid (E1.out.trans (disp_true hb2))
      clear hb2 E1
      go_wp2_with fail
      refine Calls.mono HT2.out ?_
      rintro e w2 ⟨rfl, hr, hb⟩
      have K2 := K1.on hgl hr hb
      clear HT2 K1 hr hb
      have HC : Hid _ := hid (pIndex_any K2.rp)
      go_wp2_with fail
      refine Calls.mono HC.out ?_
      rintro e w3 ⟨s, rfl, hb, hr, hx⟩
      have T : Hid _ := hid (K2.teg hgl E2.out hb hr hx)
      have z := K2.zero.but hb (by omega)
      clear HC hb hr hx K2 E2
      unfold stV
      obtain ⟨m0, m1, m2, m3, m4, m5, m6, m7, m8, m9, m10, m11, m12⟩ := z.cells
      obtain ⟨n0, n1, n2, n3, n4, n5, n6, n7, n8, n9, n10, n11, n12⟩ := z.free
      clear z
      go_wp2
      refine bodyPost_ret (v := stV s) (by simp [results, Tryz.results37, go_sem, stV, m0, m1, m2, m3, m4, m5, m6, m7, m8, m9, m10, m11, m12]) rfl ?_
      exact T.out
    | false =>
      rw [hb2, takeB_false hb2] at HT2
      replace HT2 : Hid _ := hid HT2
      have E2 : Hid _ := hid (E1.out.trans (disp_false hb2))
      clear hb2 E1
      go_wp2_with fail
      refine Calls.mono HT2.out ?_
      rintro e w2 ⟨rfl, hr, hb⟩
      have K2 := K1.on hgl hr hb
      clear HT2 K1 hr hb
      have HT3 := pTake_any K2.rp ⟨#[118, 105, 101, 119]⟩
      cases hb3 : takeB ⟨#[118, 105, 101, 119]⟩ S with
      | true =>
        rw [hb3] at HT3
        replace HT3 : Hid _ := hid HT3
        have E3 : Hid _ := hid (E2.out.trans (disp_true hb3))
        clear hb3 E2
        go_wp2_with fail
        refine Calls.mono HT3.out ?_
        rintro e w3 ⟨rfl, hr, hb⟩
        have K3 := K2.on hgl hr hb
        clear HT3 K2 hr hb
        have HC : Hid _ := hid (pDoor_any (k := 3) K3.rp (part_query g))
        go_wp2_with fail
        refine Calls.mono HC.out ?_
        rintro e w4 ⟨s, rfl, hb, hr, hx⟩
        have T : Hid _ := hid (K3.tef hgl E3.out hb hr hx)
        have z := K3.zero.but hb (by omega)
        clear HC hb hr hx K3 E3
        unfold stV
        obtain ⟨m0, m1, m2, m3, m4, m5, m6, m7, m8, m9, m10, m11, m12⟩ := z.cells
        obtain ⟨n0, n1, n2, n3, n4, n5, n6, n7, n8, n9, n10, n11, n12⟩ := z.free
        clear z
        go_wp2
        refine bodyPost_ret (v := stV s) (by simp [results, Tryz.results37, go_sem, stV, m0, m1, m2, m3, m4, m5, m6, m7, m8, m9, m10, m11, m12]) rfl ?_
        exact T.out
      | false =>
        rw [hb3, takeB_false hb3] at HT3
        replace HT3 : Hid _ := hid HT3
        have E3 : Hid _ := hid (E2.out.trans (disp_false hb3))
        clear hb3 E2
        go_wp2_with fail
        refine Calls.mono HT3.out ?_
        rintro e w3 ⟨rfl, hr, hb⟩
        have K3 := K2.on hgl hr hb
        clear HT3 K2 hr hb
        have HT4 := pTake_any K3.rp ⟨#[99, 108, 111, 115, 117, 114, 101]⟩
        cases hb4 : takeB ⟨#[99, 108, 111, 115, 117, 114, 101]⟩ S with
        | true =>
          rw [hb4] at HT4
          replace HT4 : Hid _ := hid HT4
          have E4 : Hid _ := hid (E3.out.trans (disp_true hb4))
          clear hb4 E3
          go_wp2_with fail
          refine Calls.mono HT4.out ?_
          rintro e w4 ⟨rfl, hr, hb⟩
          have K4 := K3.on hgl hr hb
          clear HT4 K3 hr hb
          have HC : Hid _ := hid (pDoor_any (k := 4) K4.rp (part_change g))
          go_wp2_with fail
          refine Calls.mono HC.out ?_
          rintro e w5 ⟨s, rfl, hb, hr, hx⟩
          have T : Hid _ := hid (K4.tef hgl E4.out hb hr hx)
          have z := K4.zero.but hb (by omega)
          clear HC hb hr hx K4 E4
          unfold stV
          obtain ⟨m0, m1, m2, m3, m4, m5, m6, m7, m8, m9, m10, m11, m12⟩ := z.cells
          obtain ⟨n0, n1, n2, n3, n4, n5, n6, n7, n8, n9, n10, n11, n12⟩ := z.free
          clear z
          go_wp2
          refine bodyPost_ret (v := stV s) (by simp [results, Tryz.results37, go_sem, stV, m0, m1, m2, m3, m4, m5, m6, m7, m8, m9, m10, m11, m12]) rfl ?_
          exact T.out
        | false =>
          rw [hb4, takeB_false hb4] at HT4
          replace HT4 : Hid _ := hid HT4
          have E4 : Hid _ := hid (E3.out.trans (disp_false hb4))
          clear hb4 E3
          go_wp2_with fail
          refine Calls.mono HT4.out ?_
          rintro e w4 ⟨rfl, hr, hb⟩
          have K4 := K3.on hgl hr hb
          clear HT4 K3 hr hb
          obtain ⟨q1, q2⟩ := fail_run (α := Sf) S
          have HC : Hid _ := hid (pFail_any K4.rp 5 (by decide))
          have Q1 : Hid _ := hid q1
          have Q2 : Hid _ := hid q2
          clear q1 q2
          go_wp2_with fail
          refine Calls.mono HC.out ?_
          rintro e w5 ⟨rfl, hr, hb⟩
          have T : Hid _ := hid (TeF.fin2 (s := zS 0) hgl (K4.but.trans hb) (by rw [E4.out, Q1.out]; exact hr) fun m r e => absurd (E4.out ▸ e) (Q2.out m r))
          have z := K4.zero.but hb (by omega)
          clear HC hb hr K4 E4 Q1 Q2
          obtain ⟨m0, m1, m2, m3, m4, m5, m6, m7, m8, m9, m10, m11, m12⟩ := z.cells
          obtain ⟨n0, n1, n2, n3, n4, n5, n6, n7, n8, n9, n10, n11, n12⟩ := z.free
          clear z
          go_wp2
          refine bodyPost_ret (v := stV (zS 0)) (by simp [results, Tryz.results37, go_sem, stV, m0, m1, m2, m3, m4, m5, m6, m7, m8, m9, m10, m11, m12]) rfl ?_
          exact T.out

end Go.Proofs.YtjlmcnbmhgabpaaGreat
