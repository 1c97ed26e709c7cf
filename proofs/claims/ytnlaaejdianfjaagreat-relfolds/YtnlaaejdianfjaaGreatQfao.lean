import Derived.Test.YtnlaaejdianfjaaGreatQfan
namespace Go.Proofs.YtnlaaejdianfjaaGreat
open Go.RowKit
set_option linter.unusedVariables false
set_option linter.unusedSimpArgs false

/-- Where it stands, or what is wrong. -/
def plP (C : List It) (tb nm : ByteArray) : Int × Int := if onlyB (itV tb nm) C then (fidx (itV tb nm) C, 0) else (0, 10)
set_option maxRecDepth 100000 in
set_option maxHeartbeats 2000000 in
theorem idxSc_any {l : List It} {p : It → Bool} (hlen : l.length ≤ 500) {Q : Nat → Prop} {w : World} {ao : Option Addr} {n c : Nat} (h : RowIs eItem Q w (.slice ao n c) l) {v : Value} (hv : SuchZ eItem p w v) :
    Calls Tryz.prog 118 #[.slice ao n c, v] w fun en w' => en = .returned (.int .i64 (fidx p l)) ∧ Below w.heap.size w w' := by
  have HR : Hid (∀ w', Below w.heap.size w w' → RowIs eItem Q w' (.slice ao n c) l) := hid fun w' hb => h.keep (by decide) fun b _ hl => hb.block b hl
  obtain ⟨N, caps, rfl, hcf, hN⟩ := hv
  have HN : Hid (∀ (x : It) (Q : Nat → Prop) (cs : List Value) (w' : World), Below w.heap.size w w' → _) := hid hN
  obtain ⟨ao', n', c', e', hn, hnc, hc, _⟩ := h
  cases e'
  subst hn
  obtain ⟨R, hR⟩ : ∃ R, fidx p l = R := ⟨_, rfl⟩
  have HF : Hid _ := hid hR
  rw [hR]
  clear hN hR
  go_enter Tryz.func118, Tryz.ntmps118
  go_wp2
  go_loopw [5, 8] (fun _ v8 wr => ∃ k : Nat, k ≤ l.length ∧ v8 = .int .i64 k ∧ Below w.heap.size w wr ∧ Hid (∀ i (hi : i < l.length), i < k → p l[i] = false)) (fun _ i _ => l.length - (intOf i).toNat)
  case atStart => exact ⟨0, Nat.zero_le _, rfl, Below.refl _ _, hid fun i h hi => absurd hi (by omega)⟩
  case round =>
    obtain ⟨k, hk, rfl, hB, HE⟩ := hrel
    by_cases hlt : k < l.length
    · obtain ⟨_, _, _, e', _, _, _, hx⟩ := HR.out wr hB
      cases e'
      obtain ⟨b, o, rfl, hq, hi⟩ := hx (by omega)
      obtain ⟨cs, hEx, h2, h3⟩ := hi k hlt
      obtain ⟨x, hxl⟩ : ∃ x, l[k] = x := ⟨_, rfl⟩
      rw [hxl] at hEx
      have hEx' := hEx
      obtain rfl := hEx'
      have c0 : wr.cell? ⟨b, o + k * 3, none⟩ = some (.int .i64 x.1) := h3 0 (show 0 < 3 by decide)
      have c1 : wr.cell? ⟨b, o + k * 3 + 1, none⟩ = some (.string x.2.1) := h3 1 (show 1 < 3 by decide)
      have c2 : wr.cell? ⟨b, o + k * 3 + 2, none⟩ = some (.string x.2.2) := h3 2 (show 2 < 3 by decide)
      have HX := HN.out x _ _ wr hB hEx
      have hkm : (k : Int) < (l.length : Int) := by omega
      have hk5 : k ≤ 500 := by omega
      have HXl : Hid _ := hid hxl
      clear hEx h2 h3 hi hx hxl
      cases hp : p x with
      | true =>
        rw [hp] at HX
        have HP : Hid (fidx p l = k) := hid (fidx_hit hlt HE.out (by rw [HXl.out]; exact hp))
        replace HX : Hid _ := hid HX
        clear hp
        go_wp2_with fail
        refine Calls.mono HX.out ?_
        rintro e w4 ⟨rfl, hb4⟩
        have hB4 : Below w.heap.size w w4 := Below.on hB hb4
        clear HX hb4 hB
        go_wp2
        go_ret
        exact ⟨ret_int (by rw [← HF.out, HP.out]), hB4⟩
      | false =>
        rw [hp] at HX
        have HN2 : Hid (∀ i (hi : i < l.length), i < k + 1 → p l[i] = false) := hid fun i hi hik => by
          by_cases he : i < k
          · exact HE.out i hi he
          · obtain rfl : i = k := by omega
            rw [HXl.out]; exact hp
        replace HX : Hid _ := hid HX
        clear hp HE
        go_wp2_with fail
        refine Calls.mono HX.out ?_
        rintro e w4 ⟨rfl, hb4⟩
        have hB4 : Below w.heap.size w w4 := Below.on hB hb4
        clear HX hb4 hB
        go_wp2
        go_roundw
        case rel => exact ⟨k + 1, hlt, by go_num, hB4, HN2⟩
        case measure => simp only [intOf]; omega
    · obtain rfl : k = l.length := by omega
      have HP : Hid (fidx p l = -1) := hid (fidx_none fun i hi => HE.out i hi hi)
      clear HE
      go_wp2
      go_ret
      exact ⟨ret_int (by rw [← HF.out, HP.out]), hB⟩
set_option maxRecDepth 100000 in
set_option maxHeartbeats 2000000 in
theorem containsSc_any {l : List It} {p : It → Bool} (hlen : l.length ≤ 500) {Q : Nat → Prop} {w : World} {ao : Option Addr} {n c : Nat} (h : RowIs eItem Q w (.slice ao n c) l) {v : Value} (hv : SuchZ eItem p w v) :
    Calls Tryz.prog 119 #[.slice ao n c, v] w fun en w' => en = .returned (.bool (l.any p)) ∧ Below w.heap.size w w' := by
  have HC : Hid _ := hid (idxSc_any hlen h hv)
  have he := fidxV_any p l
  obtain ⟨N, caps, rfl, hcf, hN⟩ := hv
  clear h hN
  generalize fidx p l = R at *
  have HE : Hid _ := hid he
  clear he
  go_enter Tryz.func119, Tryz.ntmps119
  go_wp2_with fail
  refine Calls.mono HC.out ?_
  rintro e w4 ⟨rfl, hb4⟩
  go_wp2
  go_ret
  exact ⟨ret_bool HE.out, hb4⟩
set_option maxRecDepth 100000 in
theorem slice_scopeOff {ao : Option Addr} {n c k : Nat} (hr : k + 1 ≤ n) (hc : n ≤ c) (hm : c ≤ 9223372036854775807) (w' : World) : (Instr.slice 80 (.slice ao n c) (some (.int .i64 ((k : Int) + 1))) none none).run Tryz.prog w' = .ok (.slice (if c = k + 1 then ao else ao.map (·.add ((k + 1) * 3))) (n - (k + 1)) (c - (k + 1))) w' := by
  have g1 : ((k : Int) + 1) = ((k + 1 : Nat) : Int) := by omega
  rw [g1]
  generalize k + 1 = m at *
  have g2 : m ≤ c := by omega
  have g3 : (m : Int) ≤ (n : Int) := by omega
  have g4 : (n : Int) ≤ (c : Int) := by omega
  have g5 : ¬ (n : Int) < (m : Int) := by omega
  cases ao with
  | none => go_simp
  | some a => go_simp
set_option maxRecDepth 100000 in
set_option maxHeartbeats 2000000 in
theorem place1_any (tb nm : ByteArray) (x : It) {w : World} {b1 b2 : Nat} (h1 : w.cell? ⟨b1, 0, none⟩ = some (.string nm)) (h2 : w.cell? ⟨b2, 0, none⟩ = some (.string tb)) :
    Calls Tryz.prog 117 #[.agg #[.int .i64 x.1, .string x.2.1, .string x.2.2], .pointer (some ⟨b1, 0, none⟩), .pointer (some ⟨b2, 0, none⟩)] w fun en w' => en = .returned (.bool (itV tb nm x)) ∧ Below w.heap.size w w' := by
  obtain ⟨x1, x2, x3⟩ := x
  have hb := bal (Below.refl w.heap.size w) (.cells #[.int .i64 x1, .string x2, .string x3] 50)
  have q1 := cell_later hb h1
  have q2 := cell_later hb h2
  have d1 := cell_new w #[.int .i64 x1, .string x2, .string x3] 50 (0, 0) 1
  have d2 := cell_new w #[.int .i64 x1, .string x2, .string x3] 50 (0, 0) 2
  simp only [List.getElem?_toArray, List.getElem?_cons_zero, List.getElem?_cons_succ] at d1 d2
  have HT : Hid (itV tb nm (x1, x2, x3) = (decide (x3 = nm) && (decide (tb = ⟨#[]⟩) || decide (x2 = tb)))) := hid rfl
  generalize itV tb nm (x1, x2, x3) = T at *
  clear h1 h2
  go_enter Tryz.func117, Tryz.ntmps117
  go_upto_region 1 with fail
  generalize w.alloc (.cells #[.int .i64 x1, .string x2, .string x3] 50) = W at *
  by_cases h1 : x3 = nm
  · have HT2 : Hid (T = (decide (tb = ⟨#[]⟩) || decide (x2 = tb))) := hid (by rw [HT.out, h1]; simp)
    by_cases h2 : tb = ⟨#[]⟩
    · have HT3 : Hid (T = true) := hid (by rw [HT2.out, h2]; simp)
      have e1 : decide (x3 = nm) = true := by simpa using h1
      have e2 : decide (tb = ⟨#[]⟩) = true := by simpa using h2
      subst h1
      subst h2
      clear HT HT2
      go_wp2
      go_ret
      exact ⟨ret_bool HT3.out.symm, hb⟩
    · have HT3 : Hid (T = decide (x2 = tb)) := hid (by rw [HT2.out]; simp [h2])
      have e2 : tb.toList.isEmpty = false := by rw [emptyV_str]; simpa using h2
      have e3 : (x2.toList == tb.toList) = T := by rw [HT3.out, same_str]
      subst h1
      clear HT HT2
      go_wp2
      go_ret
      exact ⟨rfl, hb⟩
  · have HT3 : Hid (T = false) := hid (by rw [HT.out]; simp [h1])
    have e1 : (x3.toList == nm.toList) = false := neV_str h1
    clear HT
    go_wp2
    go_ret
    exact ⟨ret_bool HT3.out.symm, hb⟩

set_option maxRecDepth 100000 in
set_option maxHeartbeats 2000000 in
theorem place_any {C : List It} (hlen : C.length ≤ 500) (tb nm : ByteArray) {Q : Nat → Prop} {w : World} {a : Option Addr} {n c : Nat} (hC : RowIs eItem Q w (.slice a n c) C) :
    Calls Tryz.prog 88 #[.slice a n c, .string tb, .string nm] w fun en w' => en = .returned (.tuple #[.int .i64 (plP C tb nm).1, .int .i64 (plP C tb nm).2]) ∧ Below w.heap.size w w' := by
  have hw := bal (bal (Below.refl w.heap.size w) (.cells #[.string tb] 9)) (.cells #[.string nm] 9)
  obtain ⟨hn, hnc, hcm⟩ := row_lens hC
  have bT : Bk ((w.alloc (.cells #[.string tb] 9)).alloc (.cells #[.string nm] 9)) w.heap.size (.cells #[.string tb] 9) := (Bk.new w _).later (bal (Below.refl _ _) _)
  have bN : Bk ((w.alloc (.cells #[.string tb] 9)).alloc (.cells #[.string nm] 9)) (w.heap.size + 1) (.cells #[.string nm] 9) := by
    have := Bk.new (w.alloc (.cells #[.string tb] 9)) (.cells #[.string nm] 9)
    rwa [World.size_alloc] at this
  generalize hW : (w.alloc (.cells #[.string tb] 9)).alloc (.cells #[.string nm] 9) = W at hw bT bN
  have t0 : W.cell? ⟨w.heap.size, 0, none⟩ = some (.string tb) := bT.cell 0
  have n0 : W.cell? ⟨w.heap.size + 1, 0, none⟩ = some (.string nm) := bN.cell 0
  have HS : SuchZ eItem (itV tb nm) W (.func (.func 117) #[] #[.pointer (some ⟨w.heap.size + 1, 0, none⟩), .pointer (some ⟨w.heap.size, 0, none⟩)]) :=
    ⟨_, _, rfl, fun args w' => by rfl, fun x Q cs w' hb hx => by
      have hx' : cs = [.int .i64 x.1, .string x.2.1, .string x.2.2] := hx
      subst hx'
      exact place1_any tb nm x (cell_later hb n0) (cell_later hb t0)⟩
  have HSv : Hid _ := hid HS
  have hCW : RowIs eItem Q W (.slice a n c) C := hC.keep (by decide) fun b _ hl => hw.block b hl
  have HC : Hid _ := hid (idxSc_any hlen hCW HS)
  clear hC bT bN HS t0 n0
  rcases fidx_vals (itV tb nm) C with e | ⟨k, e, hk⟩
  · have hB : plP C tb nm = (0, 10) := by unfold plP onlyB; rw [e]; simp
    rw [hB]
    rw [e] at HC
    clear hB HSv hCW
    go_enter Tryz.func88, Tryz.ntmps88
    go_wp2_with fail
    (try rw [hW])
    with_reducible refine Calls.mono HC.out ?_
    rintro e w4 ⟨rfl, hb4⟩
    have hB4 := Below.on hw hb4
    clear HC hw hb4
    go_wp2
    exact bodyPost_ret (v := .tuple #[.int .i64 0, .int .i64 10]) (by simp [results, Tryz.results88]) rfl ⟨rfl, hB4⟩
  · have hB : plP C tb nm = if (C.drop (k + 1)).any (itV tb nm) then (0, 10) else ((k : Int), 0) := by
      unfold plP onlyB
      rw [e, Int.toNat_natCast]
      generalize (C.drop (k + 1)).any (itV tb nm) = T
      have h0 : decide ((0 : Int) ≤ (k : Int)) = true := by simp
      rw [h0]
      cases T <;> rfl
    rw [hB]
    rw [e] at HC
    have hsl := fun w' => slice_scopeOff (ao := a) (n := n) (c := c) (k := k) (by omega) hnc hcm w'
    obtain ⟨ao', hao⟩ : ∃ ao', (if c = k + 1 then a else a.map (·.add ((k + 1) * 3))) = ao' := ⟨_, rfl⟩
    rw [hao] at hsl
    have HS : Hid (∀ w', Below W.heap.size W w' → Calls Tryz.prog 119 #[.slice ao' (n - (k + 1)) (c - (k + 1)), .func (.func 117) #[] #[.pointer (some ⟨w.heap.size + 1, 0, none⟩), .pointer (some ⟨w.heap.size, 0, none⟩)]] w' fun en w'' => en = .returned (.bool ((C.drop (k + 1)).any (itV tb nm))) ∧ Below w'.heap.size w' w'') := hid fun w' hb =>
      containsSc_any (by rw [List.length_drop]; omega) ((hCW.keep (by decide) fun b _ hl => hb.block b hl).off (m := k + 1) (by omega) (fun b o e' hlt => by rw [← hao, if_neg (by omega), e', Option.map_some, addV_off]; rfl)) (HSv.out.later hb)
    generalize (C.drop (k + 1)).any (itV tb nm) = T at *
    generalize n - (k + 1) = n' at *
    generalize c - (k + 1) = c' at *
    have hk5 : k ≤ 500 := by omega
    clear hB HSv hCW hao
    go_enter Tryz.func88, Tryz.ntmps88
    go_wp2_with fail
    (try rw [hW])
    with_reducible refine Calls.mono HC.out ?_
    rintro e w4 ⟨rfl, hb4⟩
    have HS2 : Hid _ := hid (HS.out _ hb4)
    have hB4 := Below.on hw hb4
    clear HC HS hw hb4
    cases T with
    | true =>
      go_wp2_with fail
      refine Calls.mono HS2.out ?_
      rintro e w5 ⟨rfl, hb5⟩
      have hB5 := Below.on hB4 hb5
      clear HS2 hB4 hb5
      go_wp2
      exact bodyPost_ret (v := .tuple #[.int .i64 0, .int .i64 10]) (by simp [results, Tryz.results88]) rfl ⟨rfl, hB5⟩
    | false =>
      go_wp2_with fail
      refine Calls.mono HS2.out ?_
      rintro e w5 ⟨rfl, hb5⟩
      have hB5 := Below.on hB4 hb5
      clear HS2 hB4 hb5
      go_wp2
      exact bodyPost_ret (v := .tuple #[.int .i64 k, .int .i64 0]) (by simp [results, Tryz.results88]) rfl ⟨rfl, hB5⟩

end Go.Proofs.YtnlaaejdianfjaaGreat
namespace Go.Proofs.YtnlaaejdianfjaaGreat
open Go.RowKit
set_option linter.unusedVariables false
set_option linter.unusedSimpArgs false

/-- A tally: agg, place, rows, made, err. -/
abbrev Ta := Int × Int × Int × Vt × Int
abbrev taO (t : Ta) : Obj := .cells #[.int .i64 t.1, .int .i64 t.2.1, .int .i64 t.2.2.1, .int .i64 t.2.2.2.1.1, .int .i64 t.2.2.2.1.2.1, .string t.2.2.2.1.2.2, .int .i64 t.2.2.2.2] 164
theorem Bk.ta1 {w : World} {b : Nat} {t : Ta} (h : Bk w b (taO t)) (v : Int) : Bk (w.setCell ⟨b, 1, none⟩ (.int .i64 v)) b (taO (t.1, v, t.2.2)) := ⟨by simp [World.setCell, Array.getElem?_modify, h.row]⟩
theorem Bk.ta2 {w : World} {b : Nat} {t : Ta} (h : Bk w b (taO t)) (v : Int) : Bk (w.setCell ⟨b, 2, none⟩ (.int .i64 v)) b (taO (t.1, t.2.1, v, t.2.2.2)) := ⟨by simp [World.setCell, Array.getElem?_modify, h.row]⟩
theorem Bk.ta3 {w : World} {b : Nat} {t : Ta} (h : Bk w b (taO t)) (v : Vt) : Bk (((w.setCell ⟨b, 3, none⟩ (.int .i64 v.1)).setCell ⟨b, 4, none⟩ (.int .i64 v.2.1)).setCell ⟨b, 5, none⟩ (.string v.2.2)) b (taO (t.1, t.2.1, t.2.2.1, v, t.2.2.2.2)) := ⟨by simp [World.setCell, Array.getElem?_modify, h.row]⟩
theorem Bk.ta6 {w : World} {b : Nat} {t : Ta} (h : Bk w b (taO t)) (v : Int) : Bk (w.setCell ⟨b, 6, none⟩ (.int .i64 v)) b (taO (t.1, t.2.1, t.2.2.1, t.2.2.2.1, v)) := ⟨by simp [World.setCell, Array.getElem?_modify, h.row]⟩
theorem Bk.taC {w : World} {b : Nat} {t : Ta} (h : Bk w b (taO t)) : w.cell? ⟨b, 0, none⟩ = some (.int .i64 t.1) ∧ w.cell? ⟨b, 1, none⟩ = some (.int .i64 t.2.1) ∧ w.cell? ⟨b, 2, none⟩ = some (.int .i64 t.2.2.1) ∧ w.cell? ⟨b, 3, none⟩ = some (.int .i64 t.2.2.2.1.1) ∧ w.cell? ⟨b, 4, none⟩ = some (.int .i64 t.2.2.2.1.2.1) ∧ w.cell? ⟨b, 5, none⟩ = some (.string t.2.2.2.1.2.2) ∧ w.cell? ⟨b, 6, none⟩ = some (.int .i64 t.2.2.2.2) := by
  refine ⟨?_, ?_, ?_, ?_, ?_, ?_, ?_⟩ <;> (rw [h.cell]; rfl)
set_option maxRecDepth 100000 in
theorem whole_any (n : Int) (w : World) : Calls Tryz.prog 96 #[.int .i64 n] w fun e w' => e = .returned (vV (1, n, ⟨#[]⟩)) ∧ Below w.heap.size w w' := by
  have hw := bal (Below.refl w.heap.size w) zV
  have hz := Bv.new w
  obtain ⟨c0, c1, c2⟩ := hz.cells
  obtain ⟨f0, f1, f2⟩ := hz.free
  have hl := hz.lt
  clear hz
  go_enter Tryz.func96, Tryz.ntmps96
  go_upto_region 1 with fail
  generalize w.alloc zV = W at *
  go_wp2
  exact bodyPost_ret (v := vV (1, n, ⟨#[]⟩)) (by simp [results, Tryz.results96, go_sem, c0, c1, c2]) rfl ⟨rfl, below3 hw (by omega) _ _ _⟩
/-- An item's tally of no rows. -/
def taP (C : List It) (x : It) : Ta := if x.1 = 1 then (1, 0, 0, (1, 0, ⟨#[]⟩), 0) else if x.1 = 2 ∨ x.1 = 3 ∨ x.1 = 4 then (x.1, (plP C x.2.1 x.2.2).1, 0, (1, 0, ⟨#[]⟩), (plP C x.2.1 x.2.2).2) else (x.1, 0, 0, (1, 0, ⟨#[]⟩), if x.1 = 0 then 11 else 1)
set_option maxRecDepth 100000 in
set_option maxHeartbeats 4000000 in
theorem tallyOf_any {C : List It} (hlen : C.length ≤ 500) (x : It) {Q : Nat → Prop} {w : World} {a : Option Addr} {n c : Nat} (hC : RowIs eItem Q w (.slice a n c) C) :
    Calls Tryz.prog 65 #[.slice a n c, .agg #[.int .i64 x.1, .string x.2.1, .string x.2.2]] w fun e w' => ∃ b, e = .returned (.pointer (some ⟨b, 0, none⟩)) ∧ w.heap.size ≤ b ∧ Bk w' b (taO (taP C x)) ∧ Below w.heap.size w w' := by
  obtain ⟨x0, x1, x2⟩ := x
  have hw := bal (Below.refl w.heap.size w) (.cells #[.int .i64 x0, .string x1, .string x2] 50)
  have d0 := cell_new w #[.int .i64 x0, .string x1, .string x2] 50 (0, 0) 0
  have d1 := cell_new w #[.int .i64 x0, .string x1, .string x2] 50 (0, 0) 1
  have d2 := cell_new w #[.int .i64 x0, .string x1, .string x2] 50 (0, 0) 2
  simp only [List.getElem?_toArray, List.getElem?_cons_zero, List.getElem?_cons_succ] at d0 d1 d2
  have hsz : w.heap.size ≤ (w.alloc (.cells #[.int .i64 x0, .string x1, .string x2] 50)).heap.size := hw.size
  generalize hW : w.alloc (.cells #[.int .i64 x0, .string x1, .string x2] 50) = W at *
  have HP : Hid (∀ w', Below W.heap.size W w' → Calls Tryz.prog 88 #[.slice a n c, .string x1, .string x2] w' fun en w'' => en = .returned (.tuple #[.int .i64 (plP C x1 x2).1, .int .i64 (plP C x1 x2).2]) ∧ Below w'.heap.size w' w'') := hid fun w' hb => place_any hlen x1 x2 (hC.keep (by decide) fun b _ hl => (Below.on hw hb).block b hl)
  have HWh : Hid (∀ w', _) := hid fun w' => whole_any 0 w'
  have hY : Below W.heap.size W W.drew := (Below.refl _ W).drew
  obtain ⟨T, hT⟩ : ∃ T, taP C (x0, x1, x2) = T := ⟨_, rfl⟩
  rw [hT]
  have HT : Hid _ := hid hT
  clear hC hT
  go_enter Tryz.func65, Tryz.ntmps65
  go_upto_region 1 with fail
  (try rw [hW])
  clear hW
  refine wp_region_held_drew (S := fun w' => w'.cell? ⟨w.heap.size, 0, none⟩ = some (.int .i64 x0) ∧ w'.cell? ⟨w.heap.size, 1, none⟩ = some (.string x1) ∧ w'.cell? ⟨w.heap.size, 2, none⟩ = some (.string x2)) (by kernel_rfl) (⟨cell_later hY d0, cell_later hY d1, cell_later hY d2⟩) (fun hHeld => ?_)
  generalize W.drew = y at *
  refine wpAnyH_take (i := 0) (v := ?tv5001) rfl (by kernel_rfl) (by kernel_rfl) (by kernel_rfl) (fun _ _ _ h => h) (Or.inl ⟨by rfl, ?hy5001⟩) (by assumption) ?rs5001
  case hy5001 => (intro w9 hSw; (try dsimp only at hSw); go_simp; (try with_reducible rfl))
  (try simp only [Act.put, List.getElem_toArray, List.getElem_cons_zero, List.getElem_cons_succ, List.setIfInBounds_toArray, List.set_cons_zero, List.set_cons_succ])
  refine wpAnyH_take (i := 1) (v := ?tv5002) rfl (by kernel_rfl) (by kernel_rfl) (by kernel_rfl) (fun _ _ _ h => h) (Or.inl ⟨by rfl, ?hy5002⟩) (by assumption) ?rs5002
  case hy5002 => (intro w9 hSw; (try dsimp only at hSw); go_simp; (try with_reducible rfl))
  (try simp only [Act.put, List.getElem_toArray, List.getElem_cons_zero, List.getElem_cons_succ, List.setIfInBounds_toArray, List.set_cons_zero, List.set_cons_succ])
  refine wpAnyH_ready (rs := [2]) (by kernel_rfl) (by simp) ?_
  refine AllReadyH.cons rfl (fun K hK => ?_) AllReadyH.nil
  go_simp
  go_wp2_with (first | (go_at_call 96; (refine Calls.mono (HWh.out _) ?_); rintro e y ⟨rfl, hby⟩; replace hY := Below.on hY hby))
  refine hK.out _ _ (⟨cell_later hY d0, cell_later hY d1, cell_later hY d2⟩) (fun hHeld => ?_)
  clear hK K
  (try simp only [Act.put, List.getElem_toArray, List.getElem_cons_zero, List.getElem_cons_succ, List.setIfInBounds_toArray, List.set_cons_zero, List.set_cons_succ])
  refine wpAnyH_take (i := 3) (v := ?tv5003) rfl (by kernel_rfl) (by kernel_rfl) (by kernel_rfl) (fun _ _ _ h => h) (Or.inl ⟨by rfl, ?hy5003⟩) (by assumption) ?rs5003
  case hy5003 => (intro w9 hSw; (try dsimp only at hSw); go_simp; (try with_reducible rfl))
  (try simp only [Act.put, List.getElem_toArray, List.getElem_cons_zero, List.getElem_cons_succ, List.setIfInBounds_toArray, List.set_cons_zero, List.set_cons_succ])
  refine wpAnyH_ready (rs := [4]) (by kernel_rfl) (by simp) ?_
  refine AllReadyH.cons rfl (fun K hK => ?_) AllReadyH.nil
  go_simp
  have bq := Bk.new y (taO (x0, 0, 0, (1, 0, ⟨#[]⟩), 0))
  obtain ⟨q8, hq8⟩ : ∃ q8, y.heap.size = q8 := ⟨_, rfl⟩
  have hqw : W.heap.size ≤ q8 := by rw [← hq8]; exact hY.size
  replace hY := bal hY (taO (x0, 0, 0, (1, 0, ⟨#[]⟩), 0))
  refine hK.out _ _ (⟨cell_later hY d0, cell_later hY d1, cell_later hY d2⟩) (fun hHeld => ?_)
  clear hK K
  (try simp only [Act.put, List.getElem_toArray, List.getElem_cons_zero, List.getElem_cons_succ, List.setIfInBounds_toArray, List.set_cons_zero, List.set_cons_succ])
  rw [hq8] at bq
  (try rw [hq8])
  clear hq8
  generalize y.alloc (taO (x0, 0, 0, (1, 0, ⟨#[]⟩), 0)) = y at *
  refine wpAnyH_ready (rs := [5]) (by kernel_rfl) (by simp) ?_
  refine AllReadyH.cons rfl (fun K hK => ?_) AllReadyH.nil
  go_simp
  refine hK.out _ _ (⟨cell_later hY d0, cell_later hY d1, cell_later hY d2⟩) (fun hHeld => ?_)
  clear hK K
  (try simp only [Act.put, List.getElem_toArray, List.getElem_cons_zero, List.getElem_cons_succ, List.setIfInBounds_toArray, List.set_cons_zero, List.set_cons_succ])
  refine wpAnyH_done (by kernel_rfl) ?_ _
  clear hHeld HWh
  have hB : Below w.heap.size w y := Below.on hw hY
  replace d0 := cell_later hY d0
  replace d1 := cell_later hY d1
  replace d2 := cell_later hY d2
  have hqn : w.heap.size ≤ q8 := Nat.le_trans hsz hqw
  by_cases h1 : x0 = 1
  · subst h1
    have HT2 : Hid (T = (1, 0, 0, (1, 0, ⟨#[]⟩), 0)) := hid (by rw [← HT.out]; rfl)
    clear HT HP
    go_wp2
    go_ret
    refine ⟨q8, rfl, hqn, ?_, hB⟩
    rw [HT2.out]
    exact bq
  by_cases h2 : x0 = 2
  · subst h2
    have HT2 : Hid (T = (2, (plP C x1 x2).1, 0, (1, 0, ⟨#[]⟩), (plP C x1 x2).2)) := hid (by rw [← HT.out]; unfold taP; rw [if_neg (by dsimp only; omega), if_pos (by dsimp only; omega)])
    have HPy : Hid _ := hid (HP.out y hY)
    generalize plP C x1 x2 = P at *
    obtain ⟨p1, p2⟩ := P
    dsimp only at HPy HT2
    clear HP HT
    obtain ⟨-, j1, -, -, -, -, j6⟩ := bq.taC
    clear j1 j6
    go_wp2_with fail
    refine Calls.mono HPy.out ?_
    rintro e y2 ⟨rfl, hb2⟩
    have hB2 := Below.on hB hb2
    have bq2 := bq.later hb2
    obtain ⟨-, j1, -, -, -, -, j6⟩ := bq2.taC
    have g1 := bq2.free 1
    have g6 := bq2.free 6
    have hl2 := bq2.lt
    have HQ : Hid _ := hid (And.intro ((bq2.ta1 p1).ta6 p2) ((hB2.setCell (p := ⟨q8, 1, none⟩) hqn (.int .i64 p1)).setCell (p := ⟨q8, 6, none⟩) hqn (.int .i64 p2)))
    clear HPy bq bq2 hb2 hB hB2 hY
    dsimp only at j1 j6
    go_wp2
    go_ret
    refine ⟨q8, rfl, hqn, ?_, HQ.out.2⟩
    rw [HT2.out]
    exact HQ.out.1
  by_cases h3 : x0 = 3
  · subst h3
    have HT2 : Hid (T = (3, (plP C x1 x2).1, 0, (1, 0, ⟨#[]⟩), (plP C x1 x2).2)) := hid (by rw [← HT.out]; unfold taP; rw [if_neg (by dsimp only; omega), if_pos (by dsimp only; omega)])
    have HPy : Hid _ := hid (HP.out y hY)
    generalize plP C x1 x2 = P at *
    obtain ⟨p1, p2⟩ := P
    dsimp only at HPy HT2
    clear HP HT
    obtain ⟨-, j1, -, -, -, -, j6⟩ := bq.taC
    clear j1 j6
    go_wp2_with fail
    refine Calls.mono HPy.out ?_
    rintro e y2 ⟨rfl, hb2⟩
    have hB2 := Below.on hB hb2
    have bq2 := bq.later hb2
    obtain ⟨-, j1, -, -, -, -, j6⟩ := bq2.taC
    have g1 := bq2.free 1
    have g6 := bq2.free 6
    have hl2 := bq2.lt
    have HQ : Hid _ := hid (And.intro ((bq2.ta1 p1).ta6 p2) ((hB2.setCell (p := ⟨q8, 1, none⟩) hqn (.int .i64 p1)).setCell (p := ⟨q8, 6, none⟩) hqn (.int .i64 p2)))
    clear HPy bq bq2 hb2 hB hB2 hY
    dsimp only at j1 j6
    go_wp2
    go_ret
    refine ⟨q8, rfl, hqn, ?_, HQ.out.2⟩
    rw [HT2.out]
    exact HQ.out.1
  by_cases h4 : x0 = 4
  · subst h4
    have HT2 : Hid (T = (4, (plP C x1 x2).1, 0, (1, 0, ⟨#[]⟩), (plP C x1 x2).2)) := hid (by rw [← HT.out]; unfold taP; rw [if_neg (by dsimp only; omega), if_pos (by dsimp only; omega)])
    have HPy : Hid _ := hid (HP.out y hY)
    generalize plP C x1 x2 = P at *
    obtain ⟨p1, p2⟩ := P
    dsimp only at HPy HT2
    clear HP HT
    obtain ⟨-, j1, -, -, -, -, j6⟩ := bq.taC
    clear j1 j6
    go_wp2_with fail
    refine Calls.mono HPy.out ?_
    rintro e y2 ⟨rfl, hb2⟩
    have hB2 := Below.on hB hb2
    have bq2 := bq.later hb2
    obtain ⟨-, j1, -, -, -, -, j6⟩ := bq2.taC
    have g1 := bq2.free 1
    have g6 := bq2.free 6
    have hl2 := bq2.lt
    have HQ : Hid _ := hid (And.intro ((bq2.ta1 p1).ta6 p2) ((hB2.setCell (p := ⟨q8, 1, none⟩) hqn (.int .i64 p1)).setCell (p := ⟨q8, 6, none⟩) hqn (.int .i64 p2)))
    clear HPy bq bq2 hb2 hB hB2 hY
    dsimp only at j1 j6
    go_wp2
    go_ret
    refine ⟨q8, rfl, hqn, ?_, HQ.out.2⟩
    rw [HT2.out]
    exact HQ.out.1
  have k1 : decide (x0 = 1) = false := by simpa using h1
  have k2 : decide (x0 = 2) = false := by simpa using h2
  have k3 : decide (x0 = 3) = false := by simpa using h3
  have k4 : decide (x0 = 4) = false := by simpa using h4
  have l1 : (x0 == 1) = false := by simpa using h1
  have l2 : (x0 == 2) = false := by simpa using h2
  have l3 : (x0 == 3) = false := by simpa using h3
  have l4 : (x0 == 4) = false := by simpa using h4
  obtain ⟨-, -, -, -, -, -, j6⟩ := bq.taC
  have g6 := bq.free 6
  have hl2 := bq.lt
  clear HP
  by_cases h0 : x0 = 0
  · subst h0
    have HT2 : Hid (T = (0, 0, 0, (1, 0, ⟨#[]⟩), 11)) := hid (by rw [← HT.out]; rfl)
    have HQ : Hid _ := hid (And.intro (bq.ta6 11) (hB.setCell (p := ⟨q8, 6, none⟩) hqn (.int .i64 11)))
    clear HT bq hB hY
    go_wp2
    go_ret
    refine ⟨q8, rfl, hqn, ?_, HQ.out.2⟩
    rw [HT2.out]
    exact HQ.out.1
  · have k0 : decide (x0 = 0) = false := by simpa using h0
    have l0 : (x0 == 0) = false := by simpa using h0
    have HT2 : Hid (T = (x0, 0, 0, (1, 0, ⟨#[]⟩), 1)) := hid (by rw [← HT.out]; unfold taP; rw [if_neg h1, if_neg (by dsimp only; omega), if_neg h0])
    have HQ : Hid _ := hid (And.intro (bq.ta6 1) (hB.setCell (p := ⟨q8, 6, none⟩) hqn (.int .i64 1)))
    clear HT bq hB hY
    go_wp2
    go_ret
    refine ⟨q8, rfl, hqn, ?_, HQ.out.2⟩
    rw [HT2.out]
    exact HQ.out.1

end Go.Proofs.YtnlaaejdianfjaaGreat
namespace Go.Proofs.YtnlaaejdianfjaaGreat
open Go.RowKit
set_option linter.unusedVariables false
set_option linter.unusedSimpArgs false

/-- The value at that place. -/
def atP (r : List Vt) (p : Nat) : Vt × Int := match r[p]? with | some v => (v, 0) | none => (vZ, 10)
set_option maxRecDepth 100000 in
set_option maxHeartbeats 2000000 in
theorem atR_any {r : List Vt} {Q : Nat → Prop} {w : World} {ra : Option Addr} {rn rc : Nat} (h : RowIs eVal Q w (.slice ra rn rc) r) (p : Nat) :
    Calls Tryz.prog 97 #[.slice ra rn rc, .int .i64 p] w fun e w' => e = .returned (.tuple #[vV (atP r p).1, .int .i64 (atP r p).2]) ∧ Below w.heap.size w w' := by
  have hw := bal (Below.refl w.heap.size w) zV
  have hz : Bv (w.alloc zV) w.heap.size 0 0 ⟨#[]⟩ := Bv.new w
  obtain ⟨hn, hnc, hcm⟩ := row_lens h
  have hV := h.keep (w' := w.alloc zV) (by decide) fun b _ hl => hw.block b hl
  obtain ⟨c0, c1, c2⟩ := hz.cells
  obtain ⟨f0, f1, f2⟩ := hz.free
  have hl := hz.lt
  clear h
  by_cases hp : p < r.length
  · obtain ⟨x, hx⟩ : ∃ x, r[p] = x := ⟨_, rfl⟩
    have hR : atP r p = (x, 0) := by unfold atP; rw [List.getElem?_eq_getElem hp, hx]
    rw [hR]
    obtain ⟨b, o, rfl, -, x0, x1, x2⟩ := val1 hV hp
    rw [hx] at x0 x1 x2
    obtain ⟨v0, v1, v2⟩ := x
    have hk1 : (p : Int) < (rn : Int) := by omega
    have hk2 : ¬ (rn : Int) ≤ (p : Int) := by omega
    have hk3 : decide ((rn : Int) ≤ (p : Int)) = false := by simpa using hk2
    clear hR hV hx hp hz
    go_enter Tryz.func97, Tryz.ntmps97
    go_upto_region 1 with fail
    generalize w.alloc zV = W at *
    go_wp2
    exact bodyPost_ret (v := .tuple #[vV (v0, v1, v2), .int .i64 0]) (by simp [results, Tryz.results97, go_sem, c0, c1, c2]) rfl ⟨rfl, below3 hw (by omega) _ _ _⟩
  · have hR : atP r p = (vZ, 10) := by unfold atP; rw [List.getElem?_eq_none (by omega)]
    rw [hR]
    have hk1 : (rn : Int) ≤ (p : Int) := by omega
    have hk2 : decide ((rn : Int) ≤ (p : Int)) = true := by simpa using hk1
    clear hR hV hp hz
    go_enter Tryz.func97, Tryz.ntmps97
    go_upto_region 1 with fail
    generalize w.alloc zV = W at *
    go_wp2
    exact bodyPost_ret (v := .tuple #[vV vZ, .int .i64 10]) (by simp [results, Tryz.results97, go_sem, c0, c1, c2]) rfl ⟨rfl, below3 hw (by omega) _ _ _⟩
/-- The sum of both. -/
def suP (a b : Vt) : Vt × Int := if b.1 ≠ 1 then (vZ, 11) else ((1, nV (a.2.1 + b.2.1), ⟨#[]⟩), nE (a.2.1 + b.2.1))
set_option maxRecDepth 100000 in
set_option maxHeartbeats 4000000 in
theorem sum_any (a b : Vt) (fa : Fits a.2.1) (fb : Fits b.2.1) (w : World) : Calls Tryz.prog 127 #[vV a, vV b] w fun e w' => e = .returned (.tuple #[vV (suP a b).1, .int .i64 (suP a b).2]) ∧ Below w.heap.size w w' := by
  obtain ⟨a0, a1, a2⟩ := a
  obtain ⟨b0, b1, b2⟩ := b
  have hw := bal (bal (bal (Below.refl w.heap.size w) (.cells #[.int .i64 a0, .int .i64 a1, .string a2] 44)) (.cells #[.int .i64 b0, .int .i64 b1, .string b2] 44)) zV
  have ha := ((Bk.new w (.cells #[.int .i64 a0, .int .i64 a1, .string a2] 44)).later (bal (Below.refl _ _) (.cells #[.int .i64 b0, .int .i64 b1, .string b2] 44))).later (bal (Below.refl _ _) zV)
  have hb := (Bk.new (w.alloc (.cells #[.int .i64 a0, .int .i64 a1, .string a2] 44)) (.cells #[.int .i64 b0, .int .i64 b1, .string b2] 44)).later (bal (Below.refl _ _) zV)
  have hz := Bv.new ((w.alloc (.cells #[.int .i64 a0, .int .i64 a1, .string a2] 44)).alloc (.cells #[.int .i64 b0, .int .i64 b1, .string b2] 44))
  rw [World.size_alloc] at hb
  rw [World.size_alloc, World.size_alloc] at hz
  have HA : Hid (∀ w', _) := hid fun w' => Add_any a1 b1 fa fb w'
  have HW : Hid (∀ n w', _) := hid fun n w' => whole_any n w'
  have p0 := ha.cell 1
  have q0 := hb.cell 0
  have q1 := hb.cell 1
  simp only [List.getElem?_toArray, List.getElem?_cons_zero, List.getElem?_cons_succ] at p0 q0 q1
  clear ha hb
  by_cases hk : b0 = 1
  · subst hk
    have hR : suP (a0, a1, a2) (1, b1, b2) = ((1, nV (a1 + b1), ⟨#[]⟩), nE (a1 + b1)) := by unfold suP; rw [if_neg (by simp)]
    rw [hR]
    unfold nA at HA
    generalize nV (a1 + b1) = N at *
    generalize nE (a1 + b1) = E at *
    clear hR
    go_enter Tryz.func127, Tryz.ntmps127
    go_upto_region 1 with fail
    generalize ((w.alloc (.cells #[.int .i64 a0, .int .i64 a1, .string a2] 44)).alloc (.cells #[.int .i64 1, .int .i64 b1, .string b2] 44)).alloc zV = W at *
    go_wp2_with fail
    refine Calls.mono (HA.out _) ?_
    rintro e w1 ⟨rfl, rfl⟩
    clear p0 q0 q1 HA
    go_wp2_with fail
    refine Calls.mono (HW.out _ _) ?_
    rintro e w2 ⟨rfl, hb2⟩
    have hB := Below.on hw hb2
    have hz2 := hz.later hb2
    obtain ⟨c0, c1, c2⟩ := hz2.cells
    obtain ⟨f0, f1, f2⟩ := hz2.free
    have hl := hz2.lt
    clear HW hz hz2 hb2 hw
    go_wp2
    exact bodyPost_ret (v := .tuple #[vV (1, N, ⟨#[]⟩), .int .i64 E]) (by simp [results, Tryz.results127, go_sem, c0, c1, c2]) rfl ⟨rfl, below3 hB (by omega) _ _ _⟩
  · have hR : suP (a0, a1, a2) (b0, b1, b2) = (vZ, 11) := by unfold suP; rw [if_pos hk]
    rw [hR]
    have k1 : (b0 != 1) = true := by simpa using hk
    have k2 : decide (b0 = 1) = false := by simpa using hk
    obtain ⟨c0, c1, c2⟩ := hz.cells
    obtain ⟨f0, f1, f2⟩ := hz.free
    have hl := hz.lt
    clear HA HW hR hz
    go_enter Tryz.func127, Tryz.ntmps127
    go_upto_region 1 with fail
    generalize ((w.alloc (.cells #[.int .i64 a0, .int .i64 a1, .string a2] 44)).alloc (.cells #[.int .i64 b0, .int .i64 b1, .string b2] 44)).alloc zV = W at *
    go_wp2
    exact bodyPost_ret (v := .tuple #[vV vZ, .int .i64 11]) (by simp [results, Tryz.results127, go_sem, c0, c1, c2]) rfl ⟨rfl, below3 hw (by omega) _ _ _⟩
set_option maxRecDepth 100000 in
set_option maxHeartbeats 4000000 in
theorem foremost_any {w : World} {f : Value} {cf : Vt → Vt → Int} (hf : CmpV w f cf) (a b : Vt) : Calls Tryz.prog 128 #[f, vV a, vV b] w fun e w' => e = .returned (vV (if cf b a < 0 then b else a)) ∧ Below w.heap.size w w' := by
  obtain ⟨a0, a1, a2⟩ := a
  obtain ⟨b0, b1, b2⟩ := b
  have hw := bal (bal (bal (Below.refl w.heap.size w) (.cells #[.int .i64 a0, .int .i64 a1, .string a2] 44)) (.cells #[.int .i64 b0, .int .i64 b1, .string b2] 44)) zV
  have ha := ((Bk.new w (.cells #[.int .i64 a0, .int .i64 a1, .string a2] 44)).later (bal (Below.refl _ _) (.cells #[.int .i64 b0, .int .i64 b1, .string b2] 44))).later (bal (Below.refl _ _) zV)
  have hb := (Bk.new (w.alloc (.cells #[.int .i64 a0, .int .i64 a1, .string a2] 44)) (.cells #[.int .i64 b0, .int .i64 b1, .string b2] 44)).later (bal (Below.refl _ _) zV)
  have hz := Bv.new ((w.alloc (.cells #[.int .i64 a0, .int .i64 a1, .string a2] 44)).alloc (.cells #[.int .i64 b0, .int .i64 b1, .string b2] 44))
  rw [World.size_alloc] at hb
  rw [World.size_alloc, World.size_alloc] at hz
  have HF : Hid _ := hid (hf.later hw)
  obtain ⟨p0, p1, p2⟩ := (⟨ha.row⟩ : Bv _ w.heap.size a0 a1 a2).cells
  obtain ⟨q0, q1, q2⟩ := (⟨hb.row⟩ : Bv _ (w.heap.size + 1) b0 b1 b2).cells
  obtain ⟨N, caps, rfl, hcf, -⟩ := hf
  obtain ⟨N', caps', e1, -, hN⟩ := HF.out
  cases e1
  have HN : Hid _ := hid (hN (b0, b1, b2) (a0, a1, a2) _ (Below.refl _ _))
  obtain ⟨C, hC⟩ : ∃ C, cf (b0, b1, b2) (a0, a1, a2) = C := ⟨_, rfl⟩
  rw [hC] at HN ⊢
  obtain ⟨M, hM⟩ : ∃ M, (if C < 0 then (b0, b1, b2) else (a0, a1, a2)) = M := ⟨_, rfl⟩
  rw [hM]
  have HM : Hid _ := hid hM
  clear HF hN ha hb hC hM
  go_enter Tryz.func128, Tryz.ntmps128
  go_upto_region 1 with fail
  generalize ((w.alloc (.cells #[.int .i64 a0, .int .i64 a1, .string a2] 44)).alloc (.cells #[.int .i64 b0, .int .i64 b1, .string b2] 44)).alloc zV = W at *
  go_wp2_with fail
  refine Calls.mono HN.out ?_
  rintro e w1 ⟨rfl, hb1⟩
  have hB := Below.on hw hb1
  have hz1 := hz.later hb1
  replace p0 := cell_later hb1 p0
  replace p1 := cell_later hb1 p1
  replace p2 := cell_later hb1 p2
  replace q0 := cell_later hb1 q0
  replace q1 := cell_later hb1 q1
  replace q2 := cell_later hb1 q2
  obtain ⟨c0, c1, c2⟩ := hz1.cells
  obtain ⟨f0, f1, f2⟩ := hz1.free
  have hl := hz1.lt
  clear HN hz hz1 hb1 hw
  by_cases h0 : C < 0
  · have k1 : decide (C < 0) = true := by simpa using h0
    have hR : M = (b0, b1, b2) := by rw [← HM.out, if_pos h0]
    subst hR
    clear HM
    go_wp2
    exact bodyPost_ret (v := vV (b0, b1, b2)) (by simp [results, Tryz.results128, go_sem, c0, c1, c2]) rfl ⟨rfl, below3 hB (by omega) _ _ _⟩
  · have k1 : decide (C < 0) = false := by simpa using h0
    have hR : M = (a0, a1, a2) := by rw [← HM.out, if_neg h0]
    subst hR
    clear HM
    go_wp2
    exact bodyPost_ret (v := vV (a0, a1, a2)) (by simp [results, Tryz.results128, go_sem, c0, c1, c2]) rfl ⟨rfl, below3 hB (by omega) _ _ _⟩

end Go.Proofs.YtnlaaejdianfjaaGreat
