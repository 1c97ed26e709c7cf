/- The walk of where. -/
import Derived.Test.YtfopfhlohihihaaGreatMar
import Derived.Test.YtfopfhlohihihaaGreatMbj
import Derived.Test.YtfopfhlohihihaaGreatMat
import Derived.Test.YtfopfhlohihihaaGreatMbh
namespace Go.Proofs.YtfopfhlohihihaaGreat
open Go.RowKit
set_option linter.unusedVariables false

def preS : ByteArray := ⟨#[100, 101, 108, 101, 116, 101, 32, 102, 114, 111, 109, 32, 116, 32, 119, 104, 101, 114, 101, 32]⟩
theorem size_app (s t : ByteArray) : (s ++ t).size = s.size + t.size := by
  show (s ++ t).data.size = s.data.size + t.data.size
  rw [ByteArray.data_append, Array.size_append]
abbrev zEx : Obj := .cells #[.int .i64 0, .int .i64 0, .int .i64 0, .string ⟨#[]⟩, .string ⟨#[]⟩, .string ⟨#[]⟩, .slice none 0 0] 60

set_option maxRecDepth 100000 in
set_option maxHeartbeats 2000000 in
theorem where_ok {s : ByteArray} (hs : s.size ≤ 1000) {t : Tr} (H : ∀ X a f, PaR (preS ++ s) X a f → f = 0 ∧ ∃ m, X = some m ∧ m.1.wh = [t]) (w : World) :
    Calls Tryz.prog 18 #[.string s] w fun e w' => ∃ o p ao n c, e = .returned (.tuple #[exV o p (.slice ao n c), .bool true]) ∧ Below w.heap.size w w' ∧ Ex (fun b => w.heap.size ≤ b) w' t (exV o p (.slice ao n c)) := by
  have hz : (preS ++ s).size ≤ 9223372036854775807 := by rw [size_app]; have : preS.size = 20 := rfl; omega
  have HP : Hid _ := hid (parseStmt_any (preS ++ s) hz (w.alloc (.cells #[.int .i64 0, .int .i64 0, .int .i64 0, .string ⟨#[]⟩, .string ⟨#[]⟩, .string ⟨#[]⟩, .slice none 0 0] 60)))
  have HH : Hid _ := hid H
  have b0 := Be.new w 0 nilP (.slice none 0 0)
  unfold preS at HP HH
  clear hz H
  go_enter Tryz.func18, Tryz.ntmps18
  go_wp2_with fail
  refine Calls.mono HP.out ?_
  rintro e w1 ⟨sv, X, a, f, rfl, hb1, hp, -, hx⟩
  obtain ⟨rfl, m, rfl, hwh⟩ := HH.out X a f hp
  obtain ⟨hi, -⟩ := hx m rfl
  have hrow := hi.wh
  rw [hwh] at hrow
  obtain ⟨q1, q2, q3⟩ := hrow.num
  obtain ⟨b, o, op, p, a', n', c', e1, hce, hex⟩ := hrow.at (k := 0) (by simp)
  rw [Nat.zero_mul, Nat.add_zero] at hce
  obtain ⟨k, tb, nm, co, ta, va, it, jn, on, wh, od, ds, inn⟩ := sv
  obtain ⟨wa, wn, wc⟩ := wh
  replace e1 : wa = some ⟨b, o, none⟩ := e1
  replace q1 : wn = 1 := q1
  replace q2 : wn ≤ wc := q2
  replace q3 : wc ≤ 9223372036854775807 := q3
  subst e1 q1
  have z1 := b0.later hb1
  have hB1 : Below w.heap.size w w1 := ((Below.refl _ w).alloc (Nat.le_refl _) _).trans (hb1.mono (by simp))
  have hlz := z1.lt
  have hlb := hce.lt
  obtain ⟨k0, k1, k2, k3, k4, k5, k6⟩ := hce
  obtain ⟨m0, m1, m2, m3, m4, m5, m6⟩ := z1.cells
  obtain ⟨n0, n1, n2, n3, n4, n5, n6⟩ := z1.free
  have hQ : Ex (fun b => w.heap.size + 1 ≤ b) w1 t (exV op p (.slice a' n' c')) := hex.mono fun k hk _ => by simpa using hk
  have hQ2 : Ex (fun b => w.heap.size ≤ b) (set7 w1 w.heap.size op p (.slice a' n' c')) t (exV op p (.slice a' n' c')) := (hQ.set7 (by omega) op p (.slice a' n' c')).mono fun k hk _ => by omega
  have hB7 : Below w.heap.size w (set7 w1 w.heap.size op p (.slice a' n' c')) := by
    have B := (But.of (g := w.heap.size) hB1).set7 (Nat.le_refl _) op p (.slice a' n' c')
    exact ⟨B.os, B.tape, B.output, B.size, fun k hk => B.block k hk (by omega)⟩
  have HX : Hid _ := hid hQ2
  have HB7 : Hid _ := hid hB7
  clear HP HH hp hx hi hrow hex hQ hQ2 hB7 hwh b0 hb1 z1
  unfold stV
  go_wp2
  refine bodyPost_ret (v := .tuple #[exV op p (.slice a' n' c'), .bool true]) (by simp [results, Tryz.results18, go_sem, exV, m0, m1, m2, m3, m4, m5, m6, hlz]) rfl ?_
  exact ⟨op, p, a', n', c', rfl, bal HB7.out _, HX.out.later (bal (Below.refl _ _) _)⟩

set_option maxRecDepth 100000 in
set_option maxHeartbeats 2000000 in
theorem where_no {s : ByteArray} (hs : s.size ≤ 1000) (H : ∀ X a f, PaR (preS ++ s) X a f → f ≠ 0) (w : World) :
    Calls Tryz.prog 18 #[.string s] w fun e w' => e = .returned (.tuple #[exV 0 nilP (.slice none 0 0), .bool false]) ∧ Below w.heap.size w w' := by
  have hz : (preS ++ s).size ≤ 9223372036854775807 := by rw [size_app]; have : preS.size = 20 := rfl; omega
  have HP : Hid _ := hid (parseStmt_any (preS ++ s) hz (w.alloc (.cells #[.int .i64 0, .int .i64 0, .int .i64 0, .string ⟨#[]⟩, .string ⟨#[]⟩, .string ⟨#[]⟩, .slice none 0 0] 60)))
  have HH : Hid _ := hid H
  have b0 := Be.new w 0 nilP (.slice none 0 0)
  unfold preS at HP HH
  clear hz H
  go_enter Tryz.func18, Tryz.ntmps18
  go_wp2_with fail
  refine Calls.mono HP.out ?_
  rintro e w1 ⟨sv, X, a, f, rfl, hb1, hp, -, -⟩
  have hf := HH.out X a f hp
  have gf : (f != 0) = true := by simpa using hf
  have z1 := b0.later hb1
  have hB1 : Below w.heap.size w w1 := ((Below.refl _ w).alloc (Nat.le_refl _) _).trans (hb1.mono (by simp))
  have hlz := z1.lt
  obtain ⟨m0, m1, m2, m3, m4, m5, m6⟩ := z1.cells
  obtain ⟨n0, n1, n2, n3, n4, n5, n6⟩ := z1.free
  have hB7 : Below w.heap.size w (set7 w1 w.heap.size 0 nilP (.slice none 0 0)) := by
    have B := (But.of (g := w.heap.size) hB1).set7 (Nat.le_refl _) 0 nilP (.slice none 0 0)
    exact ⟨B.os, B.tape, B.output, B.size, fun k hk => B.block k hk (by omega)⟩
  have HB7 : Hid _ := hid hB7
  clear HP HH hp hf hB7 b0 hb1 z1 hB1
  unfold stV
  go_wp2
  refine bodyPost_ret (v := .tuple #[exV 0 nilP (.slice none 0 0), .bool false]) (by simp [results, Tryz.results18, go_sem, exV, nilP, m0, m1, m2, m3, m4, m5, m6, hlz]) rfl ?_
  exact ⟨rfl, bal HB7.out _⟩

end Go.Proofs.YtfopfhlohihihaaGreat

/- ParseShownExprs: what Parse says of its three texts; the picks that are made. -/
namespace Go.Proofs.YtfopfhlohihihaaGreat
open Go.RowKit
set_option linter.unusedVariables false

def delM (t : Tr) : Sf := (up_wh (up_tb (sm 8) ⟨#[116]⟩) [t], [])
def insM (t : Tr) : Sf := (up_va (up_tb (sm 5) ⟨#[116]⟩) [t, t], [])
def updM (t : Tr) : Sf := (up_wh (up_va (up_nm (up_tb (sm 7) ⟨#[116]⟩) ⟨#[118]⟩) [t]) [t], [])
theorem ok_kws : (∀ s ∈ [⟨#[100, 101, 108, 101, 116, 101]⟩, ⟨#[102, 114, 111, 109]⟩, ⟨#[119, 104, 101, 114, 101]⟩, ⟨#[105, 110, 115, 101, 114, 116]⟩, ⟨#[105, 110, 116, 111]⟩, ⟨#[118, 97, 108, 117, 101, 115]⟩, ⟨#[117, 112, 100, 97, 116, 101]⟩, ⟨#[115, 101, 116]⟩], WdOK (kw s)) ∧ (∀ s ∈ [⟨#[116]⟩, ⟨#[118]⟩], WdOK (nm s)) ∧ (∀ s ∈ [⟨#[40]⟩, ⟨#[41]⟩, ⟨#[44]⟩, ⟨#[61]⟩], WdOK (sg s)) := by
  refine ⟨fun s hs => ?_, fun s hs => ?_, fun s hs => ?_⟩
  · simp only [List.mem_cons, List.not_mem_nil, or_false] at hs
    rcases hs with rfl | rfl | rfl | rfl | rfl | rfl | rfl | rfl
    all_goals exact ok_kw (by decide +kernel) (by decide +kernel)
  · simp only [List.mem_cons, List.not_mem_nil, or_false] at hs
    rcases hs with rfl | rfl
    all_goals exact ok_nm (by decide +kernel) (by decide +kernel)
  · simp only [List.mem_cons, List.not_mem_nil, or_false] at hs
    rcases hs with rfl | rfl | rfl | rfl
    · exact .sign 40 (by decide)
    · exact .sign 41 (by decide)
    · exact .sign 44 (by decide)
    · exact .sign 61 (by decide)
theorem del_words {t : Tr} (hw : ∀ w ∈ wdE t, WdOK w) : ∀ w ∈ wF (delM t), WdOK w := by
  obtain ⟨k, n, g⟩ := ok_kws
  have e : wF (delM t) = kw ⟨#[100, 101, 108, 101, 116, 101]⟩ :: kw ⟨#[102, 114, 111, 109]⟩ :: nm ⟨#[116]⟩ :: kw ⟨#[119, 104, 101, 114, 101]⟩ :: wdE t := by
    show kw ⟨#[100, 101, 108, 101, 116, 101]⟩ :: kw ⟨#[102, 114, 111, 109]⟩ :: nm ⟨#[116]⟩ :: kw ⟨#[119, 104, 101, 114, 101]⟩ :: (pcE 1 t).map Prod.snd = _
    rw [pcE_words]
  rw [e]
  intro w h
  simp only [List.mem_cons] at h
  rcases h with rfl | rfl | rfl | rfl | h
  · exact k _ (mem_of rfl)
  · exact k _ (mem_of rfl)
  · exact n _ (mem_of rfl)
  · exact k _ (mem_of rfl)
  · exact hw w h
theorem ins_words {t : Tr} (hw : ∀ w ∈ wdE t, WdOK w) : ∀ w ∈ wF (insM t), WdOK w := by
  obtain ⟨k, n, g⟩ := ok_kws
  have e : wF (insM t) = kw ⟨#[105, 110, 115, 101, 114, 116]⟩ :: kw ⟨#[105, 110, 116, 111]⟩ :: nm ⟨#[116]⟩ :: kw ⟨#[118, 97, 108, 117, 101, 115]⟩ :: sg ⟨#[40]⟩ :: (wdE t ++ (sg ⟨#[44]⟩ :: (wdE t ++ [sg ⟨#[41]⟩]))) := by
    show kw ⟨#[105, 110, 115, 101, 114, 116]⟩ :: kw ⟨#[105, 110, 116, 111]⟩ :: nm ⟨#[116]⟩ :: kw ⟨#[118, 97, 108, 117, 101, 115]⟩ :: sg ⟨#[40]⟩ :: ((pcE 0 t ++ ((0, sg ⟨#[44]⟩) :: (pcE 1 t ++ []))) ++ [(0, sg ⟨#[41]⟩)]).map Prod.snd = _
    simp [pcE_words]
  rw [e]
  intro w h
  simp only [List.mem_cons, List.mem_append, List.not_mem_nil, or_false] at h
  rcases h with rfl | rfl | rfl | rfl | rfl | h | rfl | h | rfl
  · exact k _ (mem_of rfl)
  · exact k _ (mem_of rfl)
  · exact n _ (mem_of rfl)
  · exact k _ (mem_of rfl)
  · exact g _ (mem_of rfl)
  · exact hw w h
  · exact g _ (mem_of rfl)
  · exact hw w h
  · exact g _ (mem_of rfl)
theorem upd_words {t : Tr} (hw : ∀ w ∈ wdE t, WdOK w) : ∀ w ∈ wF (updM t), WdOK w := by
  obtain ⟨k, n, g⟩ := ok_kws
  have e : wF (updM t) = kw ⟨#[117, 112, 100, 97, 116, 101]⟩ :: nm ⟨#[116]⟩ :: kw ⟨#[115, 101, 116]⟩ :: nm ⟨#[118]⟩ :: sg ⟨#[61]⟩ :: (wdE t ++ (kw ⟨#[119, 104, 101, 114, 101]⟩ :: wdE t)) := by
    show kw ⟨#[117, 112, 100, 97, 116, 101]⟩ :: nm ⟨#[116]⟩ :: kw ⟨#[115, 101, 116]⟩ :: nm ⟨#[118]⟩ :: sg ⟨#[61]⟩ :: (pcE 1 t ++ ((1, kw ⟨#[119, 104, 101, 114, 101]⟩) :: pcE 1 t)).map Prod.snd = _
    simp [pcE_words]
  rw [e]
  intro w h
  simp only [List.mem_cons, List.mem_append] at h
  rcases h with rfl | rfl | rfl | rfl | rfl | h | rfl | h
  · exact k _ (mem_of rfl)
  · exact n _ (mem_of rfl)
  · exact k _ (mem_of rfl)
  · exact n _ (mem_of rfl)
  · exact g _ (mem_of rfl)
  · exact hw w h
  · exact k _ (mem_of rfl)
  · exact hw w h
theorem del_text {t : Tr} (h : CnD False t) (hw : ∀ w ∈ wdE t, WdOK w) : bs (preS ++ shE t) = ren (pcF (delM t)) := by
  obtain ⟨d, h, _⟩ := h
  have e : ren (pcF (delM t)) = bs ⟨#[100, 101, 108, 101, 116, 101, 32, 102, 114, 111, 109, 32, 116, 32, 119, 104, 101, 114, 101]⟩ ++ ren (pcE 1 t) := by
    show ren ((0, kw ⟨#[100, 101, 108, 101, 116, 101]⟩) :: (1, kw ⟨#[102, 114, 111, 109]⟩) :: (1, nm ⟨#[116]⟩) :: (1, kw ⟨#[119, 104, 101, 114, 101]⟩) :: pcE 1 t) = _
    simp only [ren_cons]
    rfl
  rw [bs_app, e, sh_ren1 h hw]
  rfl
theorem ins_text {t : Tr} (h : CnD False t) (hw : ∀ w ∈ wdE t, WdOK w) : bs ((((⟨#[105, 110, 115, 101, 114, 116, 32, 105, 110, 116, 111, 32, 116, 32, 118, 97, 108, 117, 101, 115, 40]⟩ ++ shE t) ++ ⟨#[44, 32]⟩) ++ shE t) ++ ⟨#[41]⟩) = ren (pcF (insM t)) := by
  obtain ⟨d, h, _⟩ := h
  have e : ren (pcF (insM t)) = bs ⟨#[105, 110, 115, 101, 114, 116, 32, 105, 110, 116, 111, 32, 116, 32, 118, 97, 108, 117, 101, 115, 40]⟩ ++ (ren (pcE 0 t) ++ (44 :: (ren (pcE 1 t) ++ [41]))) := by
    show ren ((0, kw ⟨#[105, 110, 115, 101, 114, 116]⟩) :: (1, kw ⟨#[105, 110, 116, 111]⟩) :: (1, nm ⟨#[116]⟩) :: (1, kw ⟨#[118, 97, 108, 117, 101, 115]⟩) :: (0, sg ⟨#[40]⟩) :: ((pcE 0 t ++ ((0, sg ⟨#[44]⟩) :: (pcE 1 t ++ []))) ++ [(0, sg ⟨#[41]⟩)])) = _
    simp only [ren_cons, ren_app, ren_nil, List.append_nil, List.append_assoc]
    rfl
  rw [bs_app, bs_app, bs_app, bs_app, e, sh_ren1 h hw, sh_ren h hw]
  simp only [List.append_assoc]
  rfl
theorem upd_text {t : Tr} (h : CnD False t) (hw : ∀ w ∈ wdE t, WdOK w) : bs (((⟨#[117, 112, 100, 97, 116, 101, 32, 116, 32, 115, 101, 116, 32, 118, 32, 61, 32]⟩ ++ shE t) ++ ⟨#[32, 119, 104, 101, 114, 101, 32]⟩) ++ shE t) = ren (pcF (updM t)) := by
  obtain ⟨d, h, _⟩ := h
  have e : ren (pcF (updM t)) = bs ⟨#[117, 112, 100, 97, 116, 101, 32, 116, 32, 115, 101, 116, 32, 118, 32, 61]⟩ ++ (ren (pcE 1 t) ++ (bs ⟨#[32, 119, 104, 101, 114, 101]⟩ ++ ren (pcE 1 t))) := by
    show ren ((0, kw ⟨#[117, 112, 100, 97, 116, 101]⟩) :: (1, nm ⟨#[116]⟩) :: (1, kw ⟨#[115, 101, 116]⟩) :: (1, nm ⟨#[118]⟩) :: (1, sg ⟨#[61]⟩) :: (pcE 1 t ++ ((1, kw ⟨#[119, 104, 101, 114, 101]⟩) :: pcE 1 t))) = _
    simp only [ren_cons, ren_app]
    rfl
  rw [bs_app, bs_app, bs_app, e, sh_ren1 h hw]
  simp only [List.append_assoc]
  rfl
theorem size_bs {s : ByteArray} {l : List UInt8} (h : bs s = l) : s.size = l.length := by rw [← bs_length, h]
/-- What Parse says of the three texts. -/
theorem told_del {t : Tr} (h : CnD False t) (hw : ∀ w ∈ wdE t, WdOK w) (hs : (shE t).size ≤ 150) : ∀ X a f, PaR (preS ++ shE t) X a f → f = 0 ∧ ∃ m, X = some m ∧ m.1.wh = [t] := fun X a f hp => by
  have h4 : (preS ++ shE t).size ≤ 400 := by rw [ByteArray.size_append]; have : preS.size = 20 := rfl; omega
  obtain ⟨h1, h2⟩ := told_shown (m := delM t) (.inl ⟨_, .inr (.inr (.inr ⟨⟨#[116]⟩, [t], .inr ⟨t, rfl, h⟩, rfl⟩)), rfl⟩) (del_words hw) (del_text h hw) h4 X a f hp
  exact ⟨h1, _, h2, rfl⟩
theorem told_ins {t : Tr} (h : CnD False t) (hw : ∀ w ∈ wdE t, WdOK w) (hs : (shE t).size ≤ 150) : ∀ X a f, PaR ((((⟨#[105, 110, 115, 101, 114, 116, 32, 105, 110, 116, 111, 32, 116, 32, 118, 97, 108, 117, 101, 115, 40]⟩ ++ shE t) ++ ⟨#[44, 32]⟩) ++ shE t) ++ ⟨#[41]⟩) X a f → f = 0 ∧ X = some (insM t) := fun X a f hp => by
  have h4 : ((((⟨#[105, 110, 115, 101, 114, 116, 32, 105, 110, 116, 111, 32, 116, 32, 118, 97, 108, 117, 101, 115, 40]⟩ ++ shE t) ++ ⟨#[44, 32]⟩) ++ shE t) ++ ⟨#[41]⟩).size ≤ 400 := by
    rw [ByteArray.size_append, ByteArray.size_append, ByteArray.size_append, ByteArray.size_append]
    have e1 : (⟨#[105, 110, 115, 101, 114, 116, 32, 105, 110, 116, 111, 32, 116, 32, 118, 97, 108, 117, 101, 115, 40]⟩ : ByteArray).size = 21 := rfl
    have e2 : (⟨#[44, 32]⟩ : ByteArray).size = 2 := rfl
    have e3 : (⟨#[41]⟩ : ByteArray).size = 1 := rfl
    omega
  exact told_shown (m := insM t) (.inl ⟨_, .inl ⟨⟨#[116]⟩, [t, t], by simp, fun x hx => by simp at hx; subst hx; exact h, rfl⟩, rfl⟩) (ins_words hw) (ins_text h hw) h4 X a f hp
theorem told_upd {t : Tr} (h : CnD False t) (hw : ∀ w ∈ wdE t, WdOK w) (hs : (shE t).size ≤ 150) : ∀ X a f, PaR (((⟨#[117, 112, 100, 97, 116, 101, 32, 116, 32, 115, 101, 116, 32, 118, 32, 61, 32]⟩ ++ shE t) ++ ⟨#[32, 119, 104, 101, 114, 101, 32]⟩) ++ shE t) X a f → f = 0 ∧ X = some (updM t) := fun X a f hp => by
  have h4 : (((⟨#[117, 112, 100, 97, 116, 101, 32, 116, 32, 115, 101, 116, 32, 118, 32, 61, 32]⟩ ++ shE t) ++ ⟨#[32, 119, 104, 101, 114, 101, 32]⟩) ++ shE t).size ≤ 400 := by
    rw [ByteArray.size_append, ByteArray.size_append, ByteArray.size_append]
    have e1 : (⟨#[117, 112, 100, 97, 116, 101, 32, 116, 32, 115, 101, 116, 32, 118, 32, 61, 32]⟩ : ByteArray).size = 17 := rfl
    have e2 : (⟨#[32, 119, 104, 101, 114, 101, 32]⟩ : ByteArray).size = 7 := rfl
    omega
  exact told_shown (m := updM t) (.inl ⟨_, .inr (.inr (.inl ⟨⟨#[116]⟩, ⟨#[118]⟩, t, [t], h, .inr ⟨t, rfl, h⟩, rfl⟩)), rfl⟩) (upd_words hw) (upd_text h hw) h4 X a f hp

theorem fld_tabs (a b : Value) (w : World) : (Instr.field 55 (.agg #[a, b]) 0).run Tryz.prog w = .ok a w := by kernel_rfl
theorem nums_of {w : World} {a : Option Addr} {len cap : Nat} {xs : List Int} (h : Rd .u8 w a len cap xs) (hx : ∀ x ∈ xs, 0 ≤ x ∧ x ≤ 255) : Nums w w.heap.size a len := fun hp => by
  obtain ⟨b, o, ha, hc⟩ := h.cells hp
  have hb : b < w.heap.size := World.block_lt_of_cell? _ _ (hc 0 hp)
  refine ⟨b, o, ha, hb, hb, fun k hk => ?_⟩
  have hk' : k < xs.length := by rw [h.len]; exact hk
  have hm : nth xs k ∈ xs := by rw [nth, List.getElem?_eq_getElem hk']; exact List.getElem_mem _
  exact ⟨nth xs k, (hx _ hm).1, (hx _ hm).2, hc k hk⟩

set_option maxRecDepth 100000 in
set_option maxHeartbeats 1000000 in
theorem made_any {w : World} {a : Option Addr} {len cap : Nat} (h1 : len ≤ cap) (h2 : cap ≤ 9223372036854775807) (h3 : Nums w w.heap.size a len) :
    Calls Tryz.prog 8 #[.slice a len cap] w fun e w' => e = .returned (.pointer (some ⟨w.heap.size, 0, none⟩)) ∧ Pk w' w.heap.size len ∧ Below w.heap.size w w' := by
  have hb := bal (Below.refl _ w) (.cells #[.slice a len cap, .int .i64 ((0 : Nat) : Int)] 67)
  have hp : Pk (w.alloc (.cells #[.slice a len cap, .int .i64 ((0 : Nat) : Int)] 67)) w.heap.size len := ⟨a, len, cap, 0, ⟨heap_alloc_new w _⟩, by omega, h1, h2, h3.keep (by have := hb.size; omega) fun k hk => hb.block k hk⟩
  have T : Hid _ := hid (And.intro hp hb)
  clear hp hb h3
  go_enter Tryz.func8, Tryz.ntmps8
  go_wp2
  go_ret
  exact ⟨rfl, T.out.1, T.out.2⟩

end Go.Proofs.YtfopfhlohihihaaGreat

