import Derived.Test.YtnlaaejdianfjabGreatQpam
import Derived.Test.YtnlaaejdianfjabGreatQpaf
namespace Go.Proofs.YtnlaaejdianfjabGreat
open Go.RowKit
set_option linter.unusedVariables false
set_option linter.unusedSimpArgs false

/-- What Holds tells of a condition, or of none. -/
def hoL (C : List It) (V : List Vt) (l : List (Pg × Tg)) : Bool × Int := match l with
  | [] => (true, 0)
  | x :: _ => hoE C V x
set_option maxRecDepth 100000 in
set_option maxHeartbeats 4000000 in
theorem holds0_any {a a2 ao : Option Addr} {n c c2 d : Nat} (h1 : n ≤ c) (h2 : n ≤ c2) (h3 : c ≤ 9223372036854775807) (h4 : c2 ≤ 9223372036854775807) (h5 : d ≤ 9223372036854775807) (w : World) :
    Calls Tryz.prog 29 #[.slice a n c, .slice a2 n c2, .slice ao 0 d] w fun en w' => en = .returned (.tuple #[.bool true, .int .i64 0]) ∧ Below w.heap.size w w' := by
  have HPr : Hid (∀ w, _) := hid fun w => pairedV_any (a := a) (n := n) (c := c) (a2 := a2) (c2 := c2) h1 h2 h3 h4 w
  have HF : Hid (∀ W v caps, v = #[] → Calls Tryz.prog 52 #[.slice ao 0 d, .bool true, .func (.func 53) v caps] W fun en w' => en = .returned (.tuple #[.bool true, .int .i64 0]) ∧ Below W.heap.size W w') := hid fun W v caps hv0 => by
    subst hv0
    have := foldVExbo (l := []) (B := W.heap.size) (by simp) (Nat.le_refl _) (Q := fun _ => False) (fun b hq => hq.elim) (show RowIs eG (fun _ => False) W (.slice ao 0 d) [] from ⟨ao, 0, d, rfl, rfl, Nat.zero_le _, h5, fun h => absurd h (by omega)⟩) (caps := caps) (N := 53) (fun args w' => by rfl) (fun _ => 0) (fun i w' k => Below W.heap.size W w' ∧ k = true)
      (fun i w' k hI => hI.1) (fun i w' k o hI => ⟨bal hI.1 o, hI.2⟩) (a0 := true) ⟨Below.refl _ _, rfl⟩
      (fun i hi w' k cs hI hE => by simp at hi)
    refine Calls.mono this ?_
    rintro en w3 ⟨k, rfl, hb3, g1, g2⟩
    rw [(g1 rfl).2]
    exact ⟨rfl, hb3⟩
  go_enter Tryz.func29, Tryz.ntmps29
  go_wp2_with fail
  refine Calls.mono (HPr.out _) ?_
  rintro e w4 ⟨rfl, hb4⟩
  clear HPr
  go_wp2_with fail
  refine Calls.mono (HF.out _ _ _ rfl) ?_
  rintro e w6 ⟨rfl, hb6⟩
  have hB6 := Below.on (bal hb4 _) hb6
  clear HF hb6
  go_wp2
  exact bodyPost_ret (v := .tuple #[.bool true, .int .i64 0]) (by simp [results, Tryz.results29]) rfl ⟨rfl, hB6⟩
theorem holC_of {C : List It} (hC5 : C.length ≤ 500) {l : List (Pg × Tg)} (hl : l.length ≤ 1) (hft : ∀ x ∈ l, ftT x) {w0 : World} {ia : Option Addr} {iN ic : Nat} {wa : Option Addr} {wn wc : Nat} {Q1 Q2 : Nat → Prop} (hC : RowIs eItem Q1 w0 (.slice ia iN ic) C) (hw : RowIs eG Q2 w0 (.slice wa wn wc) l)
    {Rs : List (List Vt)} (hR : ∀ r ∈ Rs, r.length = C.length ∧ ∀ v ∈ r, Fits v.2.1) : HolC w0 (.slice ia iN ic) (.slice wa wn wc) Rs (fun r => hoL C r l) := by
  intro W r a n c hb hr hrow
  obtain ⟨h1, h2⟩ := hR r hr
  have hCW := (hC.keep (by decide) fun b _ hlt => hb.block b hlt).mono (by decide) (Q' := fun _ => True) fun _ _ _ => trivial
  have hwW := hw.keep (by decide) fun b _ hlt => hb.block b hlt
  match l, hl with
  | [], _ =>
    obtain ⟨k1, k2, k3⟩ := row_lens hw
    obtain ⟨i1, i2, i3⟩ := row_lens hC
    obtain ⟨r1, r2, r3⟩ := row_lens hrow
    obtain rfl : wn = 0 := by simpa using k1.symm
    obtain rfl : iN = n := by omega
    exact holds0_any i2 r2 i3 r3 k3 W
  | [x], _ => exact holdsV_any hC5 h1.symm h2 x (hft x (by simp)) hCW hrow hwW
set_option maxRecDepth 100000 in
set_option maxHeartbeats 2000000 in
theorem valuesF_any {a : Option Addr} {n c : Nat} (w : World) :
    Calls Tryz.prog 24 #[.slice a n c] w fun e w' => ∃ b, e = .returned (.func (.func 46) #[] #[.pointer (some ⟨b, 0, none⟩)]) ∧ w'.cell? ⟨b, 0, none⟩ = some (.slice a n c) ∧ Below w.heap.size w w' := by
  have hc := cell_new w #[.slice a n c] 33 (0, 0) 0
  simp only [List.getElem?_toArray, List.getElem?_cons_zero] at hc
  have hw := bal (Below.refl w.heap.size w) (.cells #[.slice a n c] 33)
  have hmf : ∀ (fn : Fn) (first cap : Array Value) (w : World), (Instr.makeFunc fn first cap).run Tryz.prog w = .ok (.func fn first cap) w := fun _ _ _ _ => rfl
  have HQ : Hid _ := hid (And.intro hc hw)
  clear hc hw
  go_enter Tryz.func24, Tryz.ntmps24
  go_wp2
  go_ret
  exact ⟨_, rfl, HQ.out.1, HQ.out.2⟩
set_option maxRecDepth 100000 in
set_option maxHeartbeats 2000000 in
theorem suchC_any {ia : Option Addr} {iN ic : Nat} {wa : Option Addr} {wn wc : Nat} {gf : Nat} {lb : Array Value} (w : World) :
    Calls Tryz.prog 14 #[.slice ia iN ic, .func (.func gf) #[] lb, .slice wa wn wc] w fun e w' => ∃ b1 b2 b3, e = .returned (.func (.func 28) #[] #[.pointer (some ⟨b1, 0, none⟩), .pointer (some ⟨b2, 0, none⟩), .pointer (some ⟨b3, 0, none⟩)]) ∧ w'.cell? ⟨b1, 0, none⟩ = some (.func (.func gf) #[] lb) ∧ w'.cell? ⟨b2, 0, none⟩ = some (.slice ia iN ic) ∧ w'.cell? ⟨b3, 0, none⟩ = some (.slice wa wn wc) ∧ Below w.heap.size w w' := by
  have hw := bal (bal (bal (Below.refl w.heap.size w) (.cells #[.slice ia iN ic] 58)) (.cells #[.func (.func gf) #[] lb] 60)) (.cells #[.slice wa wn wc] 40)
  have b2 := (((Bk.new w (.cells #[.slice ia iN ic] 58)).later (bal (Below.refl _ _) (.cells #[.func (.func gf) #[] lb] 60))).later (bal (Below.refl _ _) (.cells #[.slice wa wn wc] 40))).cell 0
  have b1 := ((Bk.new (w.alloc (.cells #[.slice ia iN ic] 58)) (.cells #[.func (.func gf) #[] lb] 60)).later (bal (Below.refl _ _) (.cells #[.slice wa wn wc] 40))).cell 0
  have b3 := (Bk.new ((w.alloc (.cells #[.slice ia iN ic] 58)).alloc (.cells #[.func (.func gf) #[] lb] 60)) (.cells #[.slice wa wn wc] 40)).cell 0
  simp only [World.size_alloc, List.getElem?_toArray, List.getElem?_cons_zero] at b1 b2 b3
  have hmf : ∀ (fn : Fn) (first cap : Array Value) (w : World), (Instr.makeFunc fn first cap).run Tryz.prog w = .ok (.func fn first cap) w := fun _ _ _ _ => rfl
  have HQ : Hid _ := hid (And.intro b1 (And.intro b2 (And.intro b3 hw)))
  clear b1 b2 b3 hw
  go_enter Tryz.func14, Tryz.ntmps14
  go_wp2
  go_ret
  exact ⟨_, _, _, rfl, HQ.out.1, HQ.out.2.1, HQ.out.2.2.1, HQ.out.2.2.2⟩
set_option maxRecDepth 100000 in
set_option maxHeartbeats 2000000 in
theorem folded1_any (x : It) (w : World) : Calls Tryz.prog 16 #[.agg #[.int .i64 x.1, .string x.2.1, .string x.2.2]] w fun e w' => e = .returned (.bool (!decide (x.1 = 0))) ∧ Below w.heap.size w w' := by
  obtain ⟨x1, x2, x3⟩ := x
  have hb := bal (Below.refl w.heap.size w) (.cells #[.int .i64 x1, .string x2, .string x3] 68)
  have d0 := cell_new w #[.int .i64 x1, .string x2, .string x3] 68 (0, 0) 0
  simp only [List.getElem?_toArray, List.getElem?_cons_zero] at d0
  go_enter Tryz.func16, Tryz.ntmps16
  go_upto_region 1 with fail
  generalize w.alloc (.cells #[.int .i64 x1, .string x2, .string x3] 68) = W at *
  go_wp2
  go_ret
  exact ⟨ret_bool (by by_cases h : x1 = 0 <;> simp [bne, h]), hb⟩
set_option maxRecDepth 100000 in
theorem folded1_of (w : World) : SuchZ eItem (fun x => !decide (x.1 = 0)) w (.func (.func 16) #[] #[]) :=
  ⟨_, _, rfl, fun args w' => by rfl, fun x Q cs w' hb hx => by
    have hx' : cs = [.int .i64 x.1, .string x.2.1, .string x.2.2] := hx
    subst hx'
    exact folded1_any x w'⟩
set_option maxRecDepth 100000 in
set_option maxHeartbeats 2000000 in
theorem ordered0_any {ia : Option Addr} {iN ic : Nat} {a : Option Addr} {n c : Nat} {da : Option Addr} {dc : Nat} (ds : Bool) (w : World) :
    Calls Tryz.prog 36 #[.slice ia iN ic, .slice a n c, .slice da 0 dc, .bool ds] w fun e w' => e = .returned (.tuple #[.slice a n c, .int .i64 0]) ∧ w' = w := by
  go_enter Tryz.func36, Tryz.ntmps36
  go_wp2
  refine wp_loop_rounds 1 ?_
  rw [rounds_succ]
  go_wp2
  exact bodyPost_ret (v := .tuple #[.slice a n c, .int .i64 0]) (by simp [results, Tryz.results36]) rfl ⟨rfl, rfl⟩
set_option maxRecDepth 100000 in
set_option maxHeartbeats 2000000 in
theorem only0_any {R : List (List Vt)} (hR : R.length ≤ 500) (hM : ∀ l ∈ R, l.length ≤ 500) (hs : ∀ l ∈ R, ∀ v ∈ l, v.2.2.size ≤ 281474976710656) {ia : Option Addr} {iN ic : Nat} {ta : Option Addr} {tc : Nat} {Q : Nat → Prop} {w : World} {a : Option Addr} {n c : Nat} (h : RowIs eRow Q w (.slice a n c) R) :
    Calls Tryz.prog 37 #[.slice ia iN ic, .slice ta 0 tc, .slice a n c] w fun e w' => ∃ a' n' c', e = .returned (.tuple #[.slice a' n' c', .int .i64 0]) ∧ TeRs w.heap.size w' (.slice a' n' c') R ∧ Below w.heap.size w w' := by
  have hw := bal (Below.refl w.heap.size w) (.cells #[.slice ia iN ic] 58)
  have HC : Hid _ := hid (copied_any hR hM hs (h.keep (by decide) fun b _ hl => hw.block b hl))
  clear h hM hs
  go_enter Tryz.func37, Tryz.ntmps37
  go_upto_region 1 with fail
  generalize w.alloc (.cells #[.slice ia iN ic] 58) = W at *
  go_wp2_with fail
  refine Calls.mono HC.out ?_
  rintro e w1 ⟨v, rfl, ht, hb1⟩
  obtain ⟨a', n', c', rfl⟩ : ∃ a' n' c', v = .slice a' n' c' := by
    obtain ⟨css, ho, -, -⟩ := ht
    exact ho.sl
  have hB := Below.on hw hb1
  have HT : Hid _ := hid (ht.base hw.size)
  clear HC ht hb1
  go_wp2
  exact bodyPost_ret (v := .tuple #[.slice a' n' c', .int .i64 0]) (by simp [results, Tryz.results37]) rfl ⟨_, _, _, rfl, HT.out, hB⟩

end Go.Proofs.YtnlaaejdianfjabGreat
namespace Go.Proofs.YtnlaaejdianfjabGreat
open Go.RowKit
set_option linter.unusedVariables false
set_option linter.unusedSimpArgs false

abbrev svR (s : Sv) : Obj := .cells #[.int .i64 s.k, .string s.tb, .string s.nm, .slice s.co.1 s.co.2.1 s.co.2.2, .slice s.ta.1 s.ta.2.1 s.ta.2.2, .slice s.va.1 s.va.2.1 s.va.2.2, .slice s.it.1 s.it.2.1 s.it.2.2, .string s.jn, .slice s.on.1 s.on.2.1 s.on.2.2, .slice s.wh.1 s.wh.2.1 s.wh.2.2, .slice s.od.1 s.od.2.1 s.od.2.2, .bool s.ds, .slice s.inn.1 s.inn.2.1 s.inn.2.2] 47
/-- The first that is not 0. -/
def fstE (a b c : Int) : Int := if a ≠ 0 then a else if b ≠ 0 then b else c
/-- Rows, and a fault with which there are none. -/
def TeSel (w : World) (E : Int) (R : List (List Vt)) (e : Ending) (w' : World) : Prop := ∃ a n c, e = .returned (.tuple #[.slice a n c, .int .i64 E]) ∧ (E = 0 → TeRs w.heap.size w' (.slice a n c) R) ∧ (E ≠ 0 → a = none ∧ n = 0 ∧ c = 0) ∧ Below w.heap.size w w'
theorem TeSel.fail {w w' : World} {E : Int} {R : List (List Vt)} (hE : E ≠ 0) (hb : Below w.heap.size w w') : TeSel w E R (.returned (.tuple #[.slice none 0 0, .int .i64 E])) w' := ⟨none, 0, 0, rfl, fun h => absurd h hE, fun _ => ⟨rfl, rfl, rfl⟩, hb⟩
theorem TeSel.on {w w1 w' : World} {E : Int} {R : List (List Vt)} {e : Ending} (hb : Below w.heap.size w w1) (h : TeSel w1 E R e w') : TeSel w E R e w' := by
  obtain ⟨a, n, c, h1, h2, h3, h4⟩ := h
  exact ⟨a, n, c, h1, fun h => (h2 h).base hb.size, h3, Below.on hb h4⟩
theorem SeqW.weak {P : Program} {g : Nat} {lb : Array Value} {N : Nat} {A A' : Nat → Nat → World → Array Value → Prop} {w : World} (h : SeqW P g lb N A w) (hA : ∀ k s W xs, A k s W xs → A' k s W xs) : SeqW P g lb N A' w :=
  fun l J Jx W hW hY h0 => h l J Jx W hW (fun k W1 W2 xs h1 h2 h3 h4 h5 => hY k W1 W2 xs h1 h2 h3 h4 (hA _ _ _ _ h5)) h0
theorem A2.up {n0 n1 : Nat} {F : List (List Vt) × Int} {k s : Nat} {W : World} {xs : Array Value} (hn : n0 ≤ n1) (h : A2 n0 F k s W xs) : A2 n1 F k s W xs := by
  rcases h with ⟨a, n, c, r, rfl, h1, h2⟩ | h
  · exact .inl ⟨a, n, c, r, rfl, h1, h2.mono (by decide) fun b hq _ => hq.imp (fun x => Nat.lt_of_lt_of_le x hn) id⟩
  · exact .inr h
theorem A1.up {n0 n1 : Nat} {Rs : List (List Vt)} {k s : Nat} {W : World} {xs : Array Value} (hn : n0 ≤ n1) (h : A1 n0 Rs k s W xs) : A1 n1 Rs k s W xs := by
  obtain ⟨a, n, c, r, rfl, h1, h2⟩ := h
  exact ⟨a, n, c, r, rfl, h1, h2.mono (by decide) fun b hq _ => hq.imp (fun x => Nat.lt_of_lt_of_le x hn) id⟩
theorem SeqW.up2 {g : Nat} {lb : Array Value} {N : Nat} {F : List (List Vt) × Int} {w w' : World} (h : SeqW Tryz.prog g lb N (A2 w.heap.size F) w) (hb : Below w.heap.size w w') : SeqW Tryz.prog g lb N (A2 w'.heap.size F) w' := (h.later hb).weak fun _ _ _ _ q => q.up hb.size
theorem SeqW.up1 {g : Nat} {lb : Array Value} {N : Nat} {Rs : List (List Vt)} {w w' : World} (h : SeqW Tryz.prog g lb N (A1 w.heap.size Rs) w) (hb : Below w.heap.size w w') : SeqW Tryz.prog g lb N (A1 w'.heap.size Rs) w' := (h.later hb).weak fun _ _ _ _ q => q.up hb.size
set_option maxRecDepth 100000 in
set_option maxHeartbeats 4000000 in
theorem listed_any {w : World} {ia : Option Addr} {iN ic : Nat} {s : Sv} {gf : Nat} {lb : Array Value} {F : List (List Vt) × Int} {EO EN : Int} {R1 R2 : List (List Vt)} (eg : ∀ args w, (callFunc gf args).run Tryz.prog w = .ok (.enter gf args) w) (hl : F.1.length ≤ 500) (hs : SeqW Tryz.prog gf lb (fndN F) (A2 w.heap.size F) w)
    (hO : ∀ W a n c, Below w.heap.size w W → F.2 = 0 → RowIs eRow (fun _ => True) W (.slice a n c) F.1 → Calls Tryz.prog 36 #[.slice ia iN ic, .slice a n c, .slice s.od.1 s.od.2.1 s.od.2.2, .bool s.ds] W fun e w' => ∃ a' n' c', e = .returned (.tuple #[.slice a' n' c', .int .i64 EO]) ∧ (EO = 0 → RowIs eRow (fun _ => True) w' (.slice a' n' c') R1) ∧ Below W.heap.size W w')
    (hN : ∀ W a n c, Below w.heap.size w W → F.2 = 0 → EO = 0 → RowIs eRow (fun _ => True) W (.slice a n c) R1 → Calls Tryz.prog 37 #[.slice ia iN ic, .slice s.it.1 s.it.2.1 s.it.2.2, .slice a n c] W (TeSel W EN R2)) :
    Calls Tryz.prog 18 #[.slice ia iN ic, stV s, .func (.func gf) #[] lb] w (TeSel w (fstE F.2 EO EN) R2) := by
  have hw := bal (Below.refl w.heap.size w) (svR s)
  have hbs : Bs (w.alloc (svR s)) w.heap.size s := ⟨heap_alloc_new w _⟩
  have HG : Hid _ := hid (gathered_any eg hl (hs.up2 hw))
  have HO : Hid _ := hid hO
  have HN : Hid _ := hid hN
  clear hO hN hs hl eg
  go_enter Tryz.func18, Tryz.ntmps18
  dsimp only [stV]
  go_upto_region 1 with fail
  generalize w.alloc (svR s) = W at *
  obtain ⟨q, hq⟩ : ∃ q, w.heap.size = q := ⟨_, rfl⟩
  rw [hq] at hbs
  (try rw [hq])
  go_wp2_with fail
  refine Calls.mono HG.out ?_
  rintro e w1 ⟨a, n, c, rfl, hb1, hr1, -⟩
  have hB1 := Below.on hw hb1
  have hs1 := hbs.later hb1
  obtain ⟨f1, f2⟩ := F
  dsimp only at *
  by_cases h0 : f2 = 0
  · subst h0
    have HO1 : Hid _ := hid (HO.out w1 a n c hB1 rfl (hr1 rfl))
    obtain ⟨-, -, -, -, -, -, c6, -, -, -, c10, c11, -⟩ := hs1.cells
    clear HG hb1 hr1 HO hbs
    go_wp2_with fail
    refine Calls.mono HO1.out ?_
    rintro e w2 ⟨a2, n2, c2, rfl, hr2, hb2⟩
    have hB2 := Below.on hB1 hb2
    replace c6 := cell_later hb2 c6
    clear HO1 c10 c11 hs1
    by_cases h1 : EO = 0
    · subst h1
      have HN1 : Hid _ := hid (HN.out w2 a2 n2 c2 hB2 (by first | rfl | trivial) (by first | rfl | trivial) (hr2 (by first | rfl | trivial)))
      clear HN hr2 hb2
      go_wp2_with fail
      refine Calls.mono HN1.out ?_
      rintro e w3 h3
      obtain ⟨a3, n3, c3, rfl, q1, q2, hb3⟩ := h3
      have HQ : Hid (TeSel w (fstE 0 0 EN) R2 (.returned (.tuple #[.slice a3 n3 c3, .int .i64 EN])) w3) := hid (TeSel.on hB2 ⟨a3, n3, c3, rfl, q1, q2, hb3⟩)
      clear HN1 q1 q2 hb3
      go_wp2
      exact bodyPost_ret (v := .tuple #[.slice a3 n3 c3, .int .i64 EN]) (by simp [results, Tryz.results18]) rfl HQ.out
    · have h0' : (EO != 0) = true := by simpa using h1
      have h0d : decide (EO = 0) = false := by simpa using h1
      have HQ : Hid (TeSel w (fstE 0 EO EN) R2 (.returned (.tuple #[.slice none 0 0, .int .i64 EO])) w2) := hid (by
        rw [show fstE 0 EO EN = EO from by simp [fstE, h1]]
        exact TeSel.fail h1 hB2)
      clear HN hr2 hb2
      go_wp2
      exact bodyPost_ret (v := .tuple #[.slice none 0 0, .int .i64 EO]) (by simp [results, Tryz.results18]) rfl HQ.out
  · have h0' : (f2 != 0) = true := by simpa using h0
    have h0d : decide (f2 = 0) = false := by simpa using h0
    have HQ : Hid (TeSel w (fstE f2 EO EN) R2 (.returned (.tuple #[.slice none 0 0, .int .i64 f2])) w1) := hid (by
      rw [show fstE f2 EO EN = f2 from by simp [fstE, h0]]
      exact TeSel.fail h0 hB1)
    clear HG hb1 hr1 HO HN hbs hs1
    go_wp2
    exact bodyPost_ret (v := .tuple #[.slice none 0 0, .int .i64 f2]) (by simp [results, Tryz.results18]) rfl HQ.out

end Go.Proofs.YtnlaaejdianfjabGreat
namespace Go.Proofs.YtnlaaejdianfjabGreat
open Go.RowKit
set_option linter.unusedVariables false
set_option linter.unusedSimpArgs false

abbrev tbV (nm : ByteArray) (c x : Sl) : Value := .agg #[.string nm, .slice c.1 c.2.1 c.2.2, .slice x.1 x.2.1 x.2.2]
abbrev tbRO (nm : ByteArray) (c x : Sl) : Obj := .cells #[.string nm, .slice c.1 c.2.1 c.2.2, .slice x.1 x.2.1 x.2.2] 32
/-- What from tells: the columns, and the rows one by one; or a fault. -/
def FrP (w : World) (C : List It) (Rs : List (List Vt)) (E : Int) (e : Ending) (w' : World) : Prop := ∃ ia iN ic gf lb,
  e = .returned (.tuple #[.slice ia iN ic, .func gf #[] lb, .int .i64 E]) ∧ Below w.heap.size w w' ∧ (E = 0 → ∃ g, gf = .func g ∧ (∀ args w2, (callFunc g args).run Tryz.prog w2 = .ok (.enter g args) w2) ∧ RowIs eItem (fun _ => True) w' (.slice ia iN ic) C ∧ SeqW Tryz.prog g lb Rs.length (A1 w'.heap.size Rs) w')
theorem its_row {B : Nat} {w : World} {v : Value} {l : List It} (h : OwnR 68 3 B w v (l.map itC)) : RowIs eItem (fun _ => True) w v l := OwnR.rowE (e := eItem) h (by simp) (fun _ _ _ => trivial) fun i h1 h2 => by
  show _ = _
  simp [itC]
set_option maxRecDepth 100000 in
set_option maxHeartbeats 4000000 in
theorem fromN_any {s : Sv} (hj : s.jn = ⟨#[]⟩) {t : Tbl} (ht : t.cols.length ≤ 200) {c x c2 x2 : Sl} {n2 : ByteArray} {w : World} {Q1 Q2 Q3 : Nat → Prop} (hc : RowIs eCol Q1 w (slV c) t.cols) (hx : RowIs eStr Q2 w (slV x) t.index) {lr rr : Sl} {L : List (List Vt)} (hL : RowIs eRow Q3 w (slV lr) L) :
    Calls Tryz.prog 13 #[stV s, tbV t.name c x, tbV n2 c2 x2, slV lr, slV rr] w (FrP w (scP [t]) L 0) := by
  have hw := bal (bal (bal (Below.refl w.heap.size w) (svR s)) (tbRO t.name c x)) (tbRO n2 c2 x2)
  have bs : Bs (((w.alloc (svR s)).alloc (tbRO t.name c x)).alloc (tbRO n2 c2 x2)) w.heap.size s := (⟨heap_alloc_new w _⟩ : Bs (w.alloc (svR s)) w.heap.size s).later (bal (bal (Below.refl _ _) _) _)
  have bt := (Bk.new (w.alloc (svR s)) (tbRO t.name c x)).later (bal (Below.refl _ _) (tbRO n2 c2 x2))
  rw [World.size_alloc] at bt
  have HL : Hid (∀ w', Below w.heap.size w w' → RowIs eRow (fun _ => True) w' (slV lr) L) := hid fun w' hb => (hL.keep (by decide) fun b _ hl => hb.block b hl).mono (by decide) fun _ _ _ => trivial
  have HCo : Hid (∀ w', Below w.heap.size w w' → RowIs eTbl (fun _ => True) (w'.alloc (tbRO t.name c x)) (.slice (some ⟨w'.heap.size, 0, none⟩) 1 1) [t]) := hid fun w' hb => by
    have hb2 := bal hb (tbRO t.name c x)
    have bn := Bk.new w' (tbRO t.name c x)
    have d0 := bn.cell 0
    have d1 := bn.cell 1
    have d2 := bn.cell 2
    simp only [List.getElem?_toArray, List.getElem?_cons_zero, List.getElem?_cons_succ] at d0 d1 d2
    refine ⟨_, 1, 1, rfl, rfl, Nat.le_refl _, by decide, fun _ => ⟨w'.heap.size, 0, rfl, trivial, fun i hi => ?_⟩⟩
    obtain rfl : i = 0 := by simpa using hi
    refine ⟨[.string t.name, .slice c.1 c.2.1 c.2.2, .slice x.1 x.2.1 x.2.2], ⟨_, _, _, _, _, _, rfl, (hc.keep (by decide) fun b _ hl => hb2.block b hl).mono (by decide) fun _ _ _ => trivial, (hx.keep (by decide) fun b _ hl => hb2.block b hl).mono (by decide) fun _ _ _ => trivial⟩, rfl, fun j hj => ?_⟩
    have hj3 : j < 3 := hj
    match j, hj3 with
    | 0, _ => exact d0
    | 1, _ => exact d1
    | 2, _ => exact d2
  have HT : Hid _ := hid ht
  have HJn : Hid (s.jn = ⟨#[]⟩) := hid hj
  clear hc hx hL ht hj
  go_enter Tryz.func13, Tryz.ntmps13
  dsimp only [stV]
  go_upto_region 1 with fail
  generalize ((w.alloc (svR s)).alloc (tbRO t.name c x)).alloc (tbRO n2 c2 x2) = W at *
  obtain ⟨q, hq⟩ : ∃ q, w.heap.size = q := ⟨_, rfl⟩
  rw [hq] at bs bt
  (try rw [hq])
  obtain ⟨-, -, -, -, -, -, -, c7, -, -, -, -, -⟩ := bs.cells
  have d0 := bt.cell 0
  have d1 := bt.cell 1
  have d2 := bt.cell 2
  simp only [List.getElem?_toArray, List.getElem?_cons_zero, List.getElem?_cons_succ] at d0 d1 d2
  rw [HJn.out] at c7
  have HCW : Hid _ := hid (relCols_any (by simp) (by intro t' h'; simp at h'; rw [h']; exact HT.out) (HCo.out W hw))
  clear bs bt HCo hq
  go_wp2_with fail
  refine Calls.mono HCW.out ?_
  rintro e w1 ⟨v, rfl, ho, hb1⟩
  obtain ⟨ia, iN, ic, rfl⟩ := ho.sl
  have hB1 := Below.on (bal hw (tbRO t.name c x)) hb1
  have HO : Hid _ := hid (its_row ho)
  have HV : Hid (∀ w, _) := hid fun y => valuesF_any (a := lr.1) (n := lr.2.1) (c := lr.2.2) y
  clear HCW ho hb1 c7 d0 d1 d2
  go_wp2_with fail
  refine Calls.mono (HV.out _) ?_
  rintro e w2 ⟨b, rfl, hc2, hb2⟩
  have hB2 := Below.on hB1 hb2
  have HQ : Hid (FrP w (scP [t]) L 0 (.returned (.tuple #[.slice ia iN ic, .func (.func 46) #[] #[.pointer (some ⟨b, 0, none⟩)], .int .i64 0])) w2) := hid ⟨ia, iN, ic, _, _, rfl, hB2, fun _ => ⟨_, rfl, fun args w3 => by rfl, HO.out.keep (by decide) fun b _ hl => hb2.block b hl, values_any hc2 (HL.out _ hB2)⟩⟩
  clear HV hc2 hb2 HL
  go_wp2
  exact bodyPost_ret (v := .tuple #[.slice ia iN ic, .func (.func 46) #[] #[.pointer (some ⟨b, 0, none⟩)], .int .i64 0]) (by simp [results, Tryz.results13]) rfl HQ.out
theorem fnd_sub (hol : List Vt → Bool × Int) : ∀ (L : List (List Vt)), (fndP hol L).1.length ≤ L.length ∧ ∀ r ∈ (fndP hol L).1, r ∈ L
  | [] => ⟨Nat.le_refl _, fun r h => h⟩
  | x :: L => by
    obtain ⟨h1, h2⟩ := fnd_sub hol L
    unfold fndP
    split
    · exact ⟨Nat.zero_le _, fun r h => by simp at h⟩
    · split
      · refine ⟨by simp; exact h1, fun r h => ?_⟩
        rcases List.mem_cons.1 h with rfl | h
        · simp
        · exact List.mem_cons_of_mem _ (h2 r h)
      · exact ⟨by simp; omega, fun r h => List.mem_cons_of_mem _ (h2 r h)⟩

end Go.Proofs.YtnlaaejdianfjabGreat
namespace Go.Proofs.YtnlaaejdianfjabGreat
open Go.RowKit
set_option linter.unusedVariables false
set_option linter.unusedSimpArgs false

set_option maxRecDepth 100000 in
set_option maxHeartbeats 4000000 in
theorem selL_any {s : Sv} (h6 : s.k = 6) {n1 n2 : ByteArray} {c1 x1 c2 x2 lr rr : Sl} {w : World} {C : List It} (hC5 : C.length ≤ 500) {Rs : List (List Vt)} (hRs : Rs.length ≤ 500) (hR : ∀ r ∈ Rs, r.length = C.length ∧ ∀ v ∈ r, Fits v.2.1) {EF : Int}
    (hF : ∀ W, Below w.heap.size w W → Calls Tryz.prog 13 #[stV s, tbV n1 c1 x1, tbV n2 c2 x2, slV lr, slV rr] W (FrP W C Rs EF))
    {l : List (Pg × Tg)} (hl : l.length ≤ 1) (hft : ∀ x ∈ l, ftT x) {Q2 : Nat → Prop} (hw : RowIs eG Q2 w (slV s.wh) l) {its : List It} (hi5 : its.length ≤ 500) {Q1 : Nat → Prop} (hi : RowIs eItem Q1 w (slV s.it) its) (hag : its.any (fun x => !decide (x.1 = 0)) = false)
    {EO EN : Int} {R1 R2 : List (List Vt)}
    (hO : ∀ W ia iN ic a n c, Below w.heap.size w W → (fndP (fun r => hoL C r l) Rs).2 = 0 → RowIs eItem (fun _ => True) W (.slice ia iN ic) C → RowIs eRow (fun _ => True) W (.slice a n c) (fndP (fun r => hoL C r l) Rs).1 → Calls Tryz.prog 36 #[.slice ia iN ic, .slice a n c, .slice s.od.1 s.od.2.1 s.od.2.2, .bool s.ds] W fun e w' => ∃ a' n' c', e = .returned (.tuple #[.slice a' n' c', .int .i64 EO]) ∧ (EO = 0 → RowIs eRow (fun _ => True) w' (.slice a' n' c') R1) ∧ Below W.heap.size W w')
    (hN : ∀ W ia iN ic a n c, Below w.heap.size w W → (fndP (fun r => hoL C r l) Rs).2 = 0 → EO = 0 → RowIs eItem (fun _ => True) W (.slice ia iN ic) C → RowIs eRow (fun _ => True) W (.slice a n c) R1 → Calls Tryz.prog 37 #[.slice ia iN ic, .slice s.it.1 s.it.2.1 s.it.2.2, .slice a n c] W (TeSel W EN R2)) :
    Calls Tryz.prog 7 #[stV s, tbV n1 c1 x1, tbV n2 c2 x2, slV lr, slV rr] w (TeSel w (if EF ≠ 0 then EF else fstE (fndP (fun r => hoL C r l) Rs).2 EO EN) R2) := by
  have hw3 := bal (bal (bal (Below.refl w.heap.size w) (svR s)) (tbRO n1 c1 x1)) (tbRO n2 c2 x2)
  have bs : Bs (((w.alloc (svR s)).alloc (tbRO n1 c1 x1)).alloc (tbRO n2 c2 x2)) w.heap.size s := (⟨heap_alloc_new w _⟩ : Bs (w.alloc (svR s)) w.heap.size s).later (bal (bal (Below.refl _ _) _) _)
  have bt := (Bk.new (w.alloc (svR s)) (tbRO n1 c1 x1)).later (bal (Below.refl _ _) (tbRO n2 c2 x2))
  have bu := Bk.new ((w.alloc (svR s)).alloc (tbRO n1 c1 x1)) (tbRO n2 c2 x2)
  rw [World.size_alloc] at bt
  rw [World.size_alloc, World.size_alloc] at bu
  have HF : Hid _ := hid hF
  have HW : Hid (∀ w', Below w.heap.size w w' → RowIs eG Q2 w' (slV s.wh) l) := hid fun w' hb => hw.keep (by decide) fun b _ hl => hb.block b hl
  have HI : Hid (∀ w', Below w.heap.size w w' → RowIs eItem Q1 w' (slV s.it) its) := hid fun w' hb => hi.keep (by decide) fun b _ hl => hb.block b hl
  have HO : Hid _ := hid hO
  have HN : Hid _ := hid hN
  have HR : Hid _ := hid hR
  have HFt : Hid _ := hid hft
  have HAg : Hid _ := hid hag
  have hsub := fnd_sub (fun r => hoL C r l) Rs
  have HS : Hid _ := hid hsub.2
  have hF5 : (fndP (fun r => hoL C r l) Rs).1.length ≤ 500 := by omega
  have H6 : Hid (s.k = 6) := hid h6
  obtain ⟨E, hE⟩ : ∃ E, (if EF ≠ 0 then EF else fstE (fndP (fun r => hoL C r l) Rs).2 EO EN) = E := ⟨_, rfl⟩
  rw [hE]
  have HE : Hid _ := hid hE
  clear hF hw hi hO hN hR hft hag hsub h6 hE
  go_enter Tryz.func7, Tryz.ntmps7
  dsimp only [stV]
  go_upto_region 1 with fail
  generalize ((w.alloc (svR s)).alloc (tbRO n1 c1 x1)).alloc (tbRO n2 c2 x2) = W at *
  obtain ⟨q, hq⟩ : ∃ q, w.heap.size = q := ⟨_, rfl⟩
  rw [hq] at bs bt bu
  (try rw [hq])
  obtain ⟨c0, k1, k2, k3, k4, k5, c6, c7, c8, c9, c10, c11, c12⟩ := bs.cells
  have d0 := bt.cell 0
  have d1 := bt.cell 1
  have d2 := bt.cell 2
  have e0 := bu.cell 0
  have e1 := bu.cell 1
  have e2 := bu.cell 2
  simp only [List.getElem?_toArray, List.getElem?_cons_zero, List.getElem?_cons_succ] at d0 d1 d2 e0 e1 e2
  have g6 : (s.k != 6) = false := by rw [H6.out]; rfl
  have g6d : decide (s.k = 6) = true := by rw [H6.out]; rfl
  have HFW : Hid _ := hid (HF.out W hw3)
  dsimp only [stV] at HFW
  clear bt bu HF
  go_wp2_with fail
  with_reducible refine Calls.mono HFW.out ?_
  rintro e w1 ⟨ia, iN, ic, gf, lb, rfl, hb1, hok⟩
  have hB1 := Below.on hw3 hb1
  have bs1 := bs.later hb1
  have HOk : Hid _ := hid hok
  clear HFW hok d0 d1 d2 e0 e1 e2 c0 k1 k2 k3 k4 k5 c6 c7 c8 c9 c10 c11 c12
  by_cases h0 : EF = 0
  · subst h0
    obtain ⟨g, rfl, eg, hrC, hsq⟩ := HOk.out rfl
    obtain ⟨-, -, -, -, -, -, -, -, -, c9, -, -, -⟩ := bs1.cells
    have HSu : Hid (∀ w, _) := hid fun y => suchC_any (ia := ia) (iN := iN) (ic := ic) (wa := s.wh.1) (wn := s.wh.2.1) (wc := s.wh.2.2) (gf := g) (lb := lb) y
    have HrC : Hid (∀ w', Below w1.heap.size w1 w' → RowIs eItem (fun _ => True) w' (.slice ia iN ic) C) := hid fun w' hb => hrC.keep (by decide) fun b _ hl => hb.block b hl
    have HSq : Hid _ := hid hsq
    clear HOk hb1 bs hrC hsq
    go_wp2_with fail
    with_reducible refine Calls.mono (HSu.out _) ?_
    rintro e w2 ⟨b1, b2, b3, rfl, y1, y2, y3, hb2⟩
    have hB2 := Below.on hB1 hb2
    have bs2 := bs1.later hb2
    obtain ⟨-, -, -, -, -, -, c6, -, -, -, -, -, -⟩ := bs2.cells
    have HSe : Hid (SeqW Tryz.prog 28 #[.pointer (some ⟨b1, 0, none⟩), .pointer (some ⟨b2, 0, none⟩), .pointer (some ⟨b3, 0, none⟩)] (fndN (fndP (fun r => hoL C r l) Rs)) (A2 w2.heap.size (fndP (fun r => hoL C r l) Rs)) w2) := hid (such1_any y1 y2 y3 eg (HSq.out.up1 hb2) (holC_of hC5 hl HFt.out (HrC.out _ hb2) (HW.out _ hB2) HR.out))
    have HCt : Hid _ := hid (containsIt_any hi5 (HI.out _ hB2) (folded1_of w2))
    rw [HAg.out] at HCt
    clear HSu y1 y2 y3 c9 bs1 HSq HAg
    go_wp2_with fail
    with_reducible refine Calls.mono HCt.out ?_
    rintro e w3 ⟨rfl, hb3⟩
    have hB3 := Below.on hB2 hb3
    have bs3 := bs2.later hb3
    obtain ⟨c0, k1, k2, k3, k4, k5, c6', c7, c8, c9, c10, c11, c12⟩ := bs3.cells
    have HLi : Hid _ := hid (listed_any (w := w3) (ia := ia) (iN := iN) (ic := ic) (s := s) (fun args w => by rfl) hF5 (HSe.out.up2 hb3)
      (fun W2 a n c hb h1 h2 => HO.out W2 ia iN ic a n c (Below.on hB3 hb) h1 (HrC.out _ (Below.on hb2 (Below.on hb3 hb))) h2)
      (fun W2 a n c hb h1 h3 h2 => HN.out W2 ia iN ic a n c (Below.on hB3 hb) h1 h3 (HrC.out _ (Below.on hb2 (Below.on hb3 hb))) h2))
    dsimp only [stV] at HLi
    clear HCt HSe c6 bs2 HO HN hb3 hb2
    go_wp2_with fail
    with_reducible refine Calls.mono HLi.out ?_
    rintro e w4 h4
    have HQ := TeSel.on hB3 h4
    obtain ⟨a4, n4, c4, rfl, q1, q2, hb4⟩ := HQ
    have HQ2 : Hid (TeSel w E R2 (.returned (.tuple #[.slice a4 n4 c4, .int .i64 (fstE (fndP (fun r => hoL C r l) Rs).2 EO EN)])) w4) := hid (by rw [← HE.out, if_neg (by simp)]; exact ⟨a4, n4, c4, rfl, q1, q2, hb4⟩)
    clear HLi h4 q1 q2 hb4
    go_wp2
    exact bodyPost_ret (v := .tuple #[.slice a4 n4 c4, .int .i64 (fstE (fndP (fun r => hoL C r l) Rs).2 EO EN)]) (by simp [results, Tryz.results7]) rfl HQ2.out
  · have h0' : (EF != 0) = true := by simpa using h0
    have h0d : decide (EF = 0) = false := by simpa using h0
    have HQ : Hid (TeSel w E R2 (.returned (.tuple #[.slice none 0 0, .int .i64 EF])) w1) := hid (by rw [← HE.out, if_pos h0]; exact TeSel.fail h0 hB1)
    clear HOk hb1 bs bs1 HO HN
    go_wp2
    exact bodyPost_ret (v := .tuple #[.slice none 0 0, .int .i64 EF]) (by simp [results, Tryz.results7]) rfl HQ.out

end Go.Proofs.YtnlaaejdianfjabGreat
namespace Go.Proofs.YtnlaaejdianfjabGreat
open Go.RowKit
set_option linter.unusedVariables false
set_option linter.unusedSimpArgs false

abbrev bgS : Sv := ⟨6, ⟨#[116]⟩, ⟨#[]⟩, (none, 0, 0), (none, 0, 0), (none, 0, 0), (none, 0, 0), ⟨#[]⟩, (none, 0, 0), (none, 0, 0), (none, 0, 0), false, (none, 0, 0)⟩
abbrev bgT : Tbl := ⟨⟨#[116]⟩, [(⟨#[107]⟩, 1, ⟨#[]⟩)], []⟩
abbrev bgR : List (List Vt) := [[(1, 3, ⟨#[]⟩)]]
theorem one_row {α : Type} {e : Ek α} {w : World} {b : Nat} {x : α} {cs : List Value} (hk : cs.length = e.k) (hE : e.E (fun _ => True) w x cs) (hc : ∀ j (hj : j < cs.length), w.cell? ⟨b, j, none⟩ = some cs[j]) : RowIs e (fun _ => True) w (.slice (some ⟨b, 0, none⟩) 1 1) [x] :=
  ⟨_, 1, 1, rfl, rfl, Nat.le_refl _, by decide, fun _ => ⟨b, 0, rfl, trivial, fun i hi => by
    obtain rfl : i = 0 := by simpa using hi
    exact ⟨cs, hE, hk, fun j hj => by rw [Nat.zero_mul, Nat.zero_add]; exact hc j hj⟩⟩⟩
set_option maxRecDepth 100000 in
set_option maxHeartbeats 4000000 in
/-- Select of a table, with a condition at most, and nothing else. -/
theorem selP_any {s : Sv} (h6 : s.k = 6) (hj : s.jn = ⟨#[]⟩) (hio : s.it.2.1 = 0 ∧ s.it.2.2 ≤ 9223372036854775807) (hod : s.od.2.1 = 0) {t : Tbl} (ht : t.cols.length ≤ 200) {c x c2 x2 lr rr : Sl} {n2 : ByteArray} {w : World} {Q1 Q2 Q3 Q4 : Nat → Prop} (hc : RowIs eCol Q1 w (slV c) t.cols) (hx : RowIs eStr Q2 w (slV x) t.index) {L : List (List Vt)} (hL : RowIs eRow Q3 w (slV lr) L) (hL5 : L.length ≤ 500)
    (hR : ∀ r ∈ L, r.length = t.cols.length ∧ ∀ v ∈ r, Fits v.2.1 ∧ v.2.2.size ≤ 281474976710656) {l : List (Pg × Tg)} (hl : l.length ≤ 1) (hft : ∀ x ∈ l, ftT x) (hw : RowIs eG Q4 w (slV s.wh) l) :
    Calls Tryz.prog 7 #[stV s, tbV t.name c x, tbV n2 c2 x2, slV lr, slV rr] w (TeSel w (fndP (fun r => hoL (scP [t]) r l) L).2 (fndP (fun r => hoL (scP [t]) r l) L).1) := by
  have hCl : (scP [t]).length = t.cols.length := by simp [scP, scT]
  have hsub := fnd_sub (fun r => hoL (scP [t]) r l) L
  obtain ⟨s0, s1, s2, s3, s4, s5, ⟨ia, iN, ic⟩, s7, s8, s9, ⟨da, dn, dc⟩, s11, s12⟩ := s
  obtain ⟨hi0, hi1⟩ := hio
  dsimp only at h6 hj hi0 hi1 hod hw
  subst hi0
  subst hod
  have key := selL_any (s := ⟨s0, s1, s2, s3, s4, s5, (ia, 0, ic), s7, s8, s9, (da, 0, dc), s11, s12⟩) h6 (n1 := t.name) (n2 := n2) (c1 := c) (x1 := x) (c2 := c2) (x2 := x2) (lr := lr) (rr := rr) (w := w) (C := scP [t]) (by omega) (Rs := L) hL5 (fun r hr => ⟨by rw [hCl]; exact (hR r hr).1, fun v hv => ((hR r hr).2 v hv).1⟩) (EF := 0)
    (fun W hb => fromN_any hj ht (hc.keep (by decide) fun b _ hlt => hb.block b hlt) (hx.keep (by decide) fun b _ hlt => hb.block b hlt) (hL.keep (by decide) fun b _ hlt => hb.block b hlt))
    hl hft hw (its := []) (by simp) (Q1 := fun _ => True) ⟨ia, 0, ic, rfl, rfl, Nat.zero_le _, hi1, fun h => absurd h (by omega)⟩ rfl (EO := 0) (EN := 0) (R1 := (fndP (fun r => hoL (scP [t]) r l) L).1) (R2 := (fndP (fun r => hoL (scP [t]) r l) L).1)
    (fun W ia' iN' ic' a n c hb h0 hC hr => (ordered0_any s11 W).mono fun e w' ⟨h1, h2⟩ => ⟨a, n, c, h1, fun _ => h2 ▸ hr, h2 ▸ Below.refl _ _⟩)
    (fun W ia' iN' ic' a n c hb h0 _ hC hr => (only0_any (by omega) (fun r h => by rw [(hR r (hsub.2 r h)).1]; omega) (fun r h v hv => ((hR r (hsub.2 r h)).2 v hv).2) hr).mono fun e w' ⟨a', n', c', h1, h2, h3⟩ => ⟨a', n', c', h1, fun _ => h2, fun h => absurd rfl h, h3⟩)
  have he : (if (0 : Int) ≠ 0 then (0 : Int) else fstE (fndP (fun r => hoL (scP [t]) r l) L).2 0 0) = (fndP (fun r => hoL (scP [t]) r l) L).2 := by
    rw [if_neg (by simp)]
    unfold fstE
    split
    · rfl
    · rename_i h
      rw [if_neg (by simp)]
      exact (Classical.not_not.1 h).symm
  rw [he] at key
  exact key

set_option maxRecDepth 100000 in
set_option maxHeartbeats 4000000 in
theorem begun12_any (w : World) : Calls Tryz.prog 4 #[] w fun e w' => e = .returned (.bool true) ∧ Below w.heap.size w w' := by
  obtain ⟨q, hq⟩ : ∃ q, w.heap.size = q := ⟨_, rfl⟩
  have hw := bal (bal (bal (bal (Below.refl w.heap.size w) (.cells #[.string ⟨#[107]⟩, .int .i64 1, .string ⟨#[]⟩] 37)) (tbRO ⟨#[116]⟩ (some ⟨q, 0, none⟩, 1, 1) (none, 0, 0))) (.cells #[.int .i64 1, .int .i64 3, .string ⟨#[]⟩] 39)) (.cells #[.slice (some ⟨q + 1 + 1, 0, none⟩) 1 1] 48)
  have b0 := (((Bk.new w (.cells #[.string ⟨#[107]⟩, .int .i64 1, .string ⟨#[]⟩] 37)).later (bal (Below.refl _ _) (tbRO ⟨#[116]⟩ (some ⟨q, 0, none⟩, 1, 1) (none, 0, 0)))).later (bal (Below.refl _ _) (.cells #[.int .i64 1, .int .i64 3, .string ⟨#[]⟩] 39))).later (bal (Below.refl _ _) (.cells #[.slice (some ⟨q + 1 + 1, 0, none⟩) 1 1] 48))
  have b2 := (Bk.new ((w.alloc (.cells #[.string ⟨#[107]⟩, .int .i64 1, .string ⟨#[]⟩] 37)).alloc (tbRO ⟨#[116]⟩ (some ⟨q, 0, none⟩, 1, 1) (none, 0, 0))) (.cells #[.int .i64 1, .int .i64 3, .string ⟨#[]⟩] 39)).later (bal (Below.refl _ _) (.cells #[.slice (some ⟨q + 1 + 1, 0, none⟩) 1 1] 48))
  have b3 := Bk.new (((w.alloc (.cells #[.string ⟨#[107]⟩, .int .i64 1, .string ⟨#[]⟩] 37)).alloc (tbRO ⟨#[116]⟩ (some ⟨q, 0, none⟩, 1, 1) (none, 0, 0))).alloc (.cells #[.int .i64 1, .int .i64 3, .string ⟨#[]⟩] 39)) (.cells #[.slice (some ⟨q + 1 + 1, 0, none⟩) 1 1] 48)
  rw [World.size_alloc, World.size_alloc, hq] at b2
  rw [World.size_alloc, World.size_alloc, World.size_alloc, hq] at b3
  rw [hq] at b0
  go_enter Tryz.func4, Tryz.ntmps4
  go_wp2_with fail
  (try rw [hq])
  generalize (((w.alloc (.cells #[.string ⟨#[107]⟩, .int .i64 1, .string ⟨#[]⟩] 37)).alloc (tbRO ⟨#[116]⟩ (some ⟨q, 0, none⟩, 1, 1) (none, 0, 0))).alloc (.cells #[.int .i64 1, .int .i64 3, .string ⟨#[]⟩] 39)).alloc (.cells #[.slice (some ⟨q + 1 + 1, 0, none⟩) 1 1] 48) = W at *
  have hcol : RowIs eCol (fun _ => True) W (slV (some ⟨q, 0, none⟩, 1, 1)) bgT.cols := one_row (e := eCol) (cs := [.string ⟨#[107]⟩, .int .i64 1, .string ⟨#[]⟩]) rfl rfl fun j hj => by
    rw [b0.cell]; simp only [List.getElem?_toArray]; exact List.getElem?_eq_getElem hj
  have hrow : RowIs eVal (fun _ => True) W (.slice (some ⟨q + 1 + 1, 0, none⟩) 1 1) [(1, 3, ⟨#[]⟩)] := one_row (e := eVal) (cs := [.int .i64 1, .int .i64 3, .string ⟨#[]⟩]) rfl rfl fun j hj => by
    rw [b2.cell]; simp only [List.getElem?_toArray]; exact List.getElem?_eq_getElem hj
  have hrows : RowIs eRow (fun _ => True) W (slV (some ⟨q + 1 + 1 + 1, 0, none⟩, 1, 1)) bgR := one_row (e := eRow) (cs := [.slice (some ⟨q + 1 + 1, 0, none⟩) 1 1]) rfl ⟨_, _, _, rfl, hrow⟩ fun j hj => by
    rw [b3.cell]; simp only [List.getElem?_toArray]; exact List.getElem?_eq_getElem hj
  have HS := selP_any (s := bgS) rfl rfl ⟨rfl, by decide⟩ rfl (t := bgT) (by decide) (c := (some ⟨q, 0, none⟩, 1, 1)) (x := (none, 0, 0)) (c2 := (none, 0, 0)) (x2 := (none, 0, 0)) (lr := (some ⟨q + 1 + 1 + 1, 0, none⟩, 1, 1)) (rr := (none, 0, 0)) (n2 := ⟨#[]⟩) (w := W) hcol (RowIs.nil eStr (fun _ => True) W) hrows (by decide)
    (by
      intro r hr
      obtain rfl : r = [(1, 3, ⟨#[]⟩)] := by simpa [bgR] using hr
      refine ⟨rfl, fun v hv => ?_⟩
      obtain rfl : v = (1, 3, ⟨#[]⟩) := by simpa using hv
      exact ⟨by unfold Fits; decide, by decide⟩) (l := []) (by decide) (fun x hx => by simp at hx) (RowIs.nil eG (fun _ => True) W)
  rw [show fndP (fun r => hoL (scP [bgT]) r []) bgR = (bgR, 0) from rfl] at HS
  dsimp only [stV] at HS
  replace HS : Hid _ := hid HS
  clear b0 b2 b3 hcol hrow hrows
  with_reducible refine Calls.mono HS.out ?_
  rintro e w1 ⟨a, n, c, rfl, ht, -, hb1⟩
  have hB1 := Below.on hw hb1
  have ht' := ht rfl
  obtain rfl : n = 1 := ht'.len
  have hR := ht'.row
  obtain ⟨b, o, ra, rn, rc, rfl, -, x0, rx⟩ := row1 hR (k := 0) (by decide)
  have rx' : RowIs eVal _ w1 (.slice ra rn rc) [(1, 3, ⟨#[]⟩)] := rx
  obtain rfl : 1 = rn := (row_lens rx').1
  obtain ⟨b', o', rfl, -, y0, y1, y2⟩ := val1 rx' (k := 0) (by decide)
  have HSo : Hid _ := hid (sortT_any (L := bgR) (by decide) (by decide) (by
      intro r hr v hv
      obtain rfl : r = [(1, 3, ⟨#[]⟩)] := by simpa [bgR] using hr
      obtain rfl : v = (1, 3, ⟨#[]⟩) := by simpa using hv
      decide) 0 true hR)
  have hl := srt_len 0 true bgR
  generalize srtP 0 true bgR = R at *
  have HL : Hid (R.length = 1) := hid hl
  simp only [Nat.zero_mul, Nat.add_zero, List.getElem_cons_zero] at x0 y0 y1 y2
  clear HS ht ht' hR rx rx' hb1 hl hq
  go_wp2_with fail
  refine Calls.mono HSo.out ?_
  rintro e w2 ⟨v, rfl, ht2, hb2⟩
  obtain ⟨a2, n2, c2, rfl⟩ : ∃ a n c, v = .slice a n c := by
    obtain ⟨css, ho, -, -⟩ := ht2
    exact ho.sl
  obtain rfl : n2 = 1 := ht2.len.trans HL.out
  have hB2 := Below.on hB1 hb2
  clear HSo ht2 hb2
  go_wp2
  go_ret
  exact ⟨rfl, hB2⟩
end Go.Proofs.YtnlaaejdianfjabGreat
