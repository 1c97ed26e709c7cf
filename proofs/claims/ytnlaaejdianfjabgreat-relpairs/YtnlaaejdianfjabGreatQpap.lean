import Derived.Test.YtnlaaejdianfjabGreatQpan
import Derived.Test.YtnlaaejdianfjabGreatQpao
namespace Go.Proofs.YtnlaaejdianfjabGreat
open Go.RowKit
set_option linter.unusedVariables false
set_option linter.unusedSimpArgs false

/-- Where it stands, or what is wrong. -/
def plP (C : List It) (tb nm : ByteArray) : Int × Int := if onlyB (itV tb nm) C then (fidx (itV tb nm) C, 0) else (0, 10)
set_option maxRecDepth 100000 in
set_option maxHeartbeats 2000000 in
theorem idxSc_any {l : List It} {p : It → Bool} (hlen : l.length ≤ 500) {Q : Nat → Prop} {w : World} {ao : Option Addr} {n c : Nat} (h : RowIs eItem Q w (.slice ao n c) l) {v : Value} (hv : SuchZ eItem p w v) :
    Calls Tryz.prog 75 #[.slice ao n c, v] w fun en w' => en = .returned (.int .i64 (fidx p l)) ∧ Below w.heap.size w w' := by
  have HR : Hid (∀ w', Below w.heap.size w w' → RowIs eItem Q w' (.slice ao n c) l) := hid fun w' hb => h.keep (by decide) fun b _ hl => hb.block b hl
  obtain ⟨N, caps, rfl, hcf, hN⟩ := hv
  have HN : Hid (∀ (x : It) (Q : Nat → Prop) (cs : List Value) (w' : World), Below w.heap.size w w' → _) := hid hN
  obtain ⟨ao', n', c', e', hn, hnc, hc, _⟩ := h
  cases e'
  subst hn
  obtain ⟨R, hR⟩ : ∃ R, fidx p l = R := ⟨_, rfl⟩
  have HF : Hid _ := hid hR
  rw [hR]
  clear hN hR
  go_enter Tryz.func75, Tryz.ntmps75
  go_wp2
  go_loopw [5, 8] (fun _ v8 wr => ∃ k : Nat, k ≤ l.length ∧ v8 = .int .i64 k ∧ Below w.heap.size w wr ∧ Hid (∀ i (hi : i < l.length), i < k → p l[i] = false)) (fun _ i _ => l.length - (intOf i).toNat)
  case atStart => exact ⟨0, Nat.zero_le _, rfl, Below.refl _ _, hid fun i h hi => absurd hi (by omega)⟩
  case round =>
    obtain ⟨k, hk, rfl, hB, HE⟩ := hrel
    by_cases hlt : k < l.length
    · obtain ⟨_, _, _, e', _, _, _, hx⟩ := HR.out wr hB
      cases e'
      obtain ⟨b, o, rfl, hq, hi⟩ := hx (by omega)
      obtain ⟨cs, hEx, h2, h3⟩ := hi k hlt
      obtain ⟨x, hxl⟩ : ∃ x, l[k] = x := ⟨_, rfl⟩
      rw [hxl] at hEx
      have hEx' := hEx
      obtain rfl := hEx'
      have c0 : wr.cell? ⟨b, o + k * 3, none⟩ = some (.int .i64 x.1) := h3 0 (show 0 < 3 by decide)
      have c1 : wr.cell? ⟨b, o + k * 3 + 1, none⟩ = some (.string x.2.1) := h3 1 (show 1 < 3 by decide)
      have c2 : wr.cell? ⟨b, o + k * 3 + 2, none⟩ = some (.string x.2.2) := h3 2 (show 2 < 3 by decide)
      have HX := HN.out x _ _ wr hB hEx
      have hkm : (k : Int) < (l.length : Int) := by omega
      have hk5 : k ≤ 500 := by omega
      have HXl : Hid _ := hid hxl
      clear hEx h2 h3 hi hx hxl
      cases hp : p x with
      | true =>
        rw [hp] at HX
        have HP : Hid (fidx p l = k) := hid (fidx_hit hlt HE.out (by rw [HXl.out]; exact hp))
        replace HX : Hid _ := hid HX
        clear hp
        go_wp2_with fail
        refine Calls.mono HX.out ?_
        rintro e w4 ⟨rfl, hb4⟩
        have hB4 : Below w.heap.size w w4 := Below.on hB hb4
        clear HX hb4 hB
        go_wp2
        go_ret
        exact ⟨ret_int (by rw [← HF.out, HP.out]), hB4⟩
      | false =>
        rw [hp] at HX
        have HN2 : Hid (∀ i (hi : i < l.length), i < k + 1 → p l[i] = false) := hid fun i hi hik => by
          by_cases he : i < k
          · exact HE.out i hi he
          · obtain rfl : i = k := by omega
            rw [HXl.out]; exact hp
        replace HX : Hid _ := hid HX
        clear hp HE
        go_wp2_with fail
        refine Calls.mono HX.out ?_
        rintro e w4 ⟨rfl, hb4⟩
        have hB4 : Below w.heap.size w w4 := Below.on hB hb4
        clear HX hb4 hB
        go_wp2
        go_roundw
        case rel => exact ⟨k + 1, hlt, by go_num, hB4, HN2⟩
        case measure => simp only [intOf]; omega
    · obtain rfl : k = l.length := by omega
      have HP : Hid (fidx p l = -1) := hid (fidx_none fun i hi => HE.out i hi hi)
      clear HE
      go_wp2
      go_ret
      exact ⟨ret_int (by rw [← HF.out, HP.out]), hB⟩
set_option maxRecDepth 100000 in
set_option maxHeartbeats 2000000 in
theorem containsSc_any {l : List It} {p : It → Bool} (hlen : l.length ≤ 500) {Q : Nat → Prop} {w : World} {ao : Option Addr} {n c : Nat} (h : RowIs eItem Q w (.slice ao n c) l) {v : Value} (hv : SuchZ eItem p w v) :
    Calls Tryz.prog 76 #[.slice ao n c, v] w fun en w' => en = .returned (.bool (l.any p)) ∧ Below w.heap.size w w' := by
  have HC : Hid _ := hid (idxSc_any hlen h hv)
  have he := fidxV_any p l
  obtain ⟨N, caps, rfl, hcf, hN⟩ := hv
  clear h hN
  generalize fidx p l = R at *
  have HE : Hid _ := hid he
  clear he
  go_enter Tryz.func76, Tryz.ntmps76
  go_wp2_with fail
  refine Calls.mono HC.out ?_
  rintro e w4 ⟨rfl, hb4⟩
  go_wp2
  go_ret
  exact ⟨ret_bool HE.out, hb4⟩
set_option maxRecDepth 100000 in
theorem slice_scopeOff {ao : Option Addr} {n c k : Nat} (hr : k + 1 ≤ n) (hc : n ≤ c) (hm : c ≤ 9223372036854775807) (w' : World) : (Instr.slice 58 (.slice ao n c) (some (.int .i64 ((k : Int) + 1))) none none).run Tryz.prog w' = .ok (.slice (if c = k + 1 then ao else ao.map (·.add ((k + 1) * 3))) (n - (k + 1)) (c - (k + 1))) w' := by
  have g1 : ((k : Int) + 1) = ((k + 1 : Nat) : Int) := by omega
  rw [g1]
  generalize k + 1 = m at *
  have g2 : m ≤ c := by omega
  have g3 : (m : Int) ≤ (n : Int) := by omega
  have g4 : (n : Int) ≤ (c : Int) := by omega
  have g5 : ¬ (n : Int) < (m : Int) := by omega
  cases ao with
  | none => go_simp
  | some a => go_simp
set_option maxRecDepth 100000 in
set_option maxHeartbeats 2000000 in
theorem place1_any (tb nm : ByteArray) (x : It) {w : World} {b1 b2 : Nat} (h1 : w.cell? ⟨b1, 0, none⟩ = some (.string nm)) (h2 : w.cell? ⟨b2, 0, none⟩ = some (.string tb)) :
    Calls Tryz.prog 74 #[.agg #[.int .i64 x.1, .string x.2.1, .string x.2.2], .pointer (some ⟨b1, 0, none⟩), .pointer (some ⟨b2, 0, none⟩)] w fun en w' => en = .returned (.bool (itV tb nm x)) ∧ Below w.heap.size w w' := by
  obtain ⟨x1, x2, x3⟩ := x
  have hb := bal (Below.refl w.heap.size w) (.cells #[.int .i64 x1, .string x2, .string x3] 68)
  have q1 := cell_later hb h1
  have q2 := cell_later hb h2
  have d1 := cell_new w #[.int .i64 x1, .string x2, .string x3] 68 (0, 0) 1
  have d2 := cell_new w #[.int .i64 x1, .string x2, .string x3] 68 (0, 0) 2
  simp only [List.getElem?_toArray, List.getElem?_cons_zero, List.getElem?_cons_succ] at d1 d2
  have HT : Hid (itV tb nm (x1, x2, x3) = (decide (x3 = nm) && (decide (tb = ⟨#[]⟩) || decide (x2 = tb)))) := hid rfl
  generalize itV tb nm (x1, x2, x3) = T at *
  clear h1 h2
  go_enter Tryz.func74, Tryz.ntmps74
  go_upto_region 1 with fail
  generalize w.alloc (.cells #[.int .i64 x1, .string x2, .string x3] 68) = W at *
  by_cases h1 : x3 = nm
  · have HT2 : Hid (T = (decide (tb = ⟨#[]⟩) || decide (x2 = tb))) := hid (by rw [HT.out, h1]; simp)
    by_cases h2 : tb = ⟨#[]⟩
    · have HT3 : Hid (T = true) := hid (by rw [HT2.out, h2]; simp)
      have e1 : decide (x3 = nm) = true := by simpa using h1
      have e2 : decide (tb = ⟨#[]⟩) = true := by simpa using h2
      subst h1
      subst h2
      clear HT HT2
      go_wp2
      go_ret
      exact ⟨ret_bool HT3.out.symm, hb⟩
    · have HT3 : Hid (T = decide (x2 = tb)) := hid (by rw [HT2.out]; simp [h2])
      have e2 : tb.toList.isEmpty = false := by rw [emptyV_str]; simpa using h2
      have e3 : (x2.toList == tb.toList) = T := by rw [HT3.out, same_str]
      subst h1
      clear HT HT2
      go_wp2
      go_ret
      exact ⟨rfl, hb⟩
  · have HT3 : Hid (T = false) := hid (by rw [HT.out]; simp [h1])
    have e1 : (x3.toList == nm.toList) = false := neV_str h1
    clear HT
    go_wp2
    go_ret
    exact ⟨ret_bool HT3.out.symm, hb⟩

set_option maxRecDepth 100000 in
set_option maxHeartbeats 2000000 in
theorem place_any {C : List It} (hlen : C.length ≤ 500) (tb nm : ByteArray) {Q : Nat → Prop} {w : World} {a : Option Addr} {n c : Nat} (hC : RowIs eItem Q w (.slice a n c) C) :
    Calls Tryz.prog 47 #[.slice a n c, .string tb, .string nm] w fun en w' => en = .returned (.tuple #[.int .i64 (plP C tb nm).1, .int .i64 (plP C tb nm).2]) ∧ Below w.heap.size w w' := by
  have hw := bal (bal (Below.refl w.heap.size w) (.cells #[.string tb] 9)) (.cells #[.string nm] 9)
  obtain ⟨hn, hnc, hcm⟩ := row_lens hC
  have bT : Bk ((w.alloc (.cells #[.string tb] 9)).alloc (.cells #[.string nm] 9)) w.heap.size (.cells #[.string tb] 9) := (Bk.new w _).later (bal (Below.refl _ _) _)
  have bN : Bk ((w.alloc (.cells #[.string tb] 9)).alloc (.cells #[.string nm] 9)) (w.heap.size + 1) (.cells #[.string nm] 9) := by
    have := Bk.new (w.alloc (.cells #[.string tb] 9)) (.cells #[.string nm] 9)
    rwa [World.size_alloc] at this
  generalize hW : (w.alloc (.cells #[.string tb] 9)).alloc (.cells #[.string nm] 9) = W at hw bT bN
  have t0 : W.cell? ⟨w.heap.size, 0, none⟩ = some (.string tb) := bT.cell 0
  have n0 : W.cell? ⟨w.heap.size + 1, 0, none⟩ = some (.string nm) := bN.cell 0
  have HS : SuchZ eItem (itV tb nm) W (.func (.func 74) #[] #[.pointer (some ⟨w.heap.size + 1, 0, none⟩), .pointer (some ⟨w.heap.size, 0, none⟩)]) :=
    ⟨_, _, rfl, fun args w' => by rfl, fun x Q cs w' hb hx => by
      have hx' : cs = [.int .i64 x.1, .string x.2.1, .string x.2.2] := hx
      subst hx'
      exact place1_any tb nm x (cell_later hb n0) (cell_later hb t0)⟩
  have HSv : Hid _ := hid HS
  have hCW : RowIs eItem Q W (.slice a n c) C := hC.keep (by decide) fun b _ hl => hw.block b hl
  have HC : Hid _ := hid (idxSc_any hlen hCW HS)
  clear hC bT bN HS t0 n0
  rcases fidx_vals (itV tb nm) C with e | ⟨k, e, hk⟩
  · have hB : plP C tb nm = (0, 10) := by unfold plP onlyB; rw [e]; simp
    rw [hB]
    rw [e] at HC
    clear hB HSv hCW
    go_enter Tryz.func47, Tryz.ntmps47
    go_wp2_with fail
    (try rw [hW])
    with_reducible refine Calls.mono HC.out ?_
    rintro e w4 ⟨rfl, hb4⟩
    have hB4 := Below.on hw hb4
    clear HC hw hb4
    go_wp2
    exact bodyPost_ret (v := .tuple #[.int .i64 0, .int .i64 10]) (by simp [results, Tryz.results47]) rfl ⟨rfl, hB4⟩
  · have hB : plP C tb nm = if (C.drop (k + 1)).any (itV tb nm) then (0, 10) else ((k : Int), 0) := by
      unfold plP onlyB
      rw [e, Int.toNat_natCast]
      generalize (C.drop (k + 1)).any (itV tb nm) = T
      have h0 : decide ((0 : Int) ≤ (k : Int)) = true := by simp
      rw [h0]
      cases T <;> rfl
    rw [hB]
    rw [e] at HC
    have hsl := fun w' => slice_scopeOff (ao := a) (n := n) (c := c) (k := k) (by omega) hnc hcm w'
    obtain ⟨ao', hao⟩ : ∃ ao', (if c = k + 1 then a else a.map (·.add ((k + 1) * 3))) = ao' := ⟨_, rfl⟩
    rw [hao] at hsl
    have HS : Hid (∀ w', Below W.heap.size W w' → Calls Tryz.prog 76 #[.slice ao' (n - (k + 1)) (c - (k + 1)), .func (.func 74) #[] #[.pointer (some ⟨w.heap.size + 1, 0, none⟩), .pointer (some ⟨w.heap.size, 0, none⟩)]] w' fun en w'' => en = .returned (.bool ((C.drop (k + 1)).any (itV tb nm))) ∧ Below w'.heap.size w' w'') := hid fun w' hb =>
      containsSc_any (by rw [List.length_drop]; omega) ((hCW.keep (by decide) fun b _ hl => hb.block b hl).off (m := k + 1) (by omega) (fun b o e' hlt => by rw [← hao, if_neg (by omega), e', Option.map_some, addV_off]; rfl)) (HSv.out.later hb)
    generalize (C.drop (k + 1)).any (itV tb nm) = T at *
    generalize n - (k + 1) = n' at *
    generalize c - (k + 1) = c' at *
    have hk5 : k ≤ 500 := by omega
    clear hB HSv hCW hao
    go_enter Tryz.func47, Tryz.ntmps47
    go_wp2_with fail
    (try rw [hW])
    with_reducible refine Calls.mono HC.out ?_
    rintro e w4 ⟨rfl, hb4⟩
    have HS2 : Hid _ := hid (HS.out _ hb4)
    have hB4 := Below.on hw hb4
    clear HC HS hw hb4
    cases T with
    | true =>
      go_wp2_with fail
      refine Calls.mono HS2.out ?_
      rintro e w5 ⟨rfl, hb5⟩
      have hB5 := Below.on hB4 hb5
      clear HS2 hB4 hb5
      go_wp2
      exact bodyPost_ret (v := .tuple #[.int .i64 0, .int .i64 10]) (by simp [results, Tryz.results47]) rfl ⟨rfl, hB5⟩
    | false =>
      go_wp2_with fail
      refine Calls.mono HS2.out ?_
      rintro e w5 ⟨rfl, hb5⟩
      have hB5 := Below.on hB4 hb5
      clear HS2 hB4 hb5
      go_wp2
      exact bodyPost_ret (v := .tuple #[.int .i64 k, .int .i64 0]) (by simp [results, Tryz.results47]) rfl ⟨rfl, hB5⟩

end Go.Proofs.YtnlaaejdianfjabGreat
namespace Go.Proofs.YtnlaaejdianfjabGreat
open Go.RowKit
set_option linter.unusedVariables false
set_option linter.unusedSimpArgs false

/-- Where the column stands that an expression is. -/
def naP (C : List It) (x : Pg × Tg) : Int × Int := if x.1.1 ≠ 2 ∨ (toL x.2).length ≠ 0 then (0, 1) else plP C x.1.2.2.2.2.1 x.1.2.2.2.2.2
set_option maxRecDepth 100000 in
set_option maxHeartbeats 4000000 in
theorem named_any {C : List It} (hlen : C.length ≤ 500) {Q1 Q : Nat → Prop} {w : World} {a : Option Addr} {n c : Nat} (hC : RowIs eItem Q1 w (.slice a n c) C) {x : Pg × Tg} {cs : List Value} (hx : eG.E Q w x cs) :
    Calls Tryz.prog 26 #[.slice a n c, .agg cs.toArray] w fun e w' => e = .returned (.tuple #[.int .i64 (naP C x).1, .int .i64 (naP C x).2]) ∧ Below w.heap.size w w' := by
  obtain ⟨ea, en, ec, rfl, hSl, hm1, hm2, -⟩ := hx
  have hen : (toL x.2).length = en := hSl
  simp only [exC] at *
  have hw := bal (Below.refl w.heap.size w) (.cells #[.int .i64 x.1.1, .int .i64 x.1.2.1, .int .i64 x.1.2.2.1, .string x.1.2.2.2.1, .string x.1.2.2.2.2.1, .string x.1.2.2.2.2.2, .slice ea en ec] 42)
  have bx := Bk.new w (.cells #[.int .i64 x.1.1, .int .i64 x.1.2.1, .int .i64 x.1.2.2.1, .string x.1.2.2.2.1, .string x.1.2.2.2.2.1, .string x.1.2.2.2.2.2, .slice ea en ec] 42)
  obtain ⟨d0, d1, d2, d3, d4, d5, d6⟩ : (w.alloc (.cells #[.int .i64 x.1.1, .int .i64 x.1.2.1, .int .i64 x.1.2.2.1, .string x.1.2.2.2.1, .string x.1.2.2.2.2.1, .string x.1.2.2.2.2.2, .slice ea en ec] 42)).cell? ⟨w.heap.size, 0, none⟩ = some (.int .i64 x.1.1) ∧ (w.alloc (.cells #[.int .i64 x.1.1, .int .i64 x.1.2.1, .int .i64 x.1.2.2.1, .string x.1.2.2.2.1, .string x.1.2.2.2.2.1, .string x.1.2.2.2.2.2, .slice ea en ec] 42)).cell? ⟨w.heap.size, 1, none⟩ = some (.int .i64 x.1.2.1) ∧ (w.alloc (.cells #[.int .i64 x.1.1, .int .i64 x.1.2.1, .int .i64 x.1.2.2.1, .string x.1.2.2.2.1, .string x.1.2.2.2.2.1, .string x.1.2.2.2.2.2, .slice ea en ec] 42)).cell? ⟨w.heap.size, 2, none⟩ = some (.int .i64 x.1.2.2.1) ∧ (w.alloc (.cells #[.int .i64 x.1.1, .int .i64 x.1.2.1, .int .i64 x.1.2.2.1, .string x.1.2.2.2.1, .string x.1.2.2.2.2.1, .string x.1.2.2.2.2.2, .slice ea en ec] 42)).cell? ⟨w.heap.size, 3, none⟩ = some (.string x.1.2.2.2.1) ∧ (w.alloc (.cells #[.int .i64 x.1.1, .int .i64 x.1.2.1, .int .i64 x.1.2.2.1, .string x.1.2.2.2.1, .string x.1.2.2.2.2.1, .string x.1.2.2.2.2.2, .slice ea en ec] 42)).cell? ⟨w.heap.size, 4, none⟩ = some (.string x.1.2.2.2.2.1) ∧ (w.alloc (.cells #[.int .i64 x.1.1, .int .i64 x.1.2.1, .int .i64 x.1.2.2.1, .string x.1.2.2.2.1, .string x.1.2.2.2.2.1, .string x.1.2.2.2.2.2, .slice ea en ec] 42)).cell? ⟨w.heap.size, 5, none⟩ = some (.string x.1.2.2.2.2.2) ∧ (w.alloc (.cells #[.int .i64 x.1.1, .int .i64 x.1.2.1, .int .i64 x.1.2.2.1, .string x.1.2.2.2.1, .string x.1.2.2.2.2.1, .string x.1.2.2.2.2.2, .slice ea en ec] 42)).cell? ⟨w.heap.size, 6, none⟩ = some (.slice ea en ec) := ⟨bx.cell 0, bx.cell 1, bx.cell 2, bx.cell 3, bx.cell 4, bx.cell 5, bx.cell 6⟩
  have HP : Hid _ := hid (place_any hlen x.1.2.2.2.2.1 x.1.2.2.2.2.2 (hC.keep (w' := w.alloc (.cells #[.int .i64 x.1.1, .int .i64 x.1.2.1, .int .i64 x.1.2.2.1, .string x.1.2.2.2.1, .string x.1.2.2.2.2.1, .string x.1.2.2.2.2.2, .slice ea en ec] 42)) (by decide) fun b _ hl => hw.block b hl))
  have HT : Hid (naP C x = if x.1.1 ≠ 2 ∨ en ≠ 0 then (0, 1) else plP C x.1.2.2.2.2.1 x.1.2.2.2.2.2) := hid (by rw [← hen]; rfl)
  obtain ⟨T, hT⟩ : ∃ T, naP C x = T := ⟨_, rfl⟩
  rw [hT] at HT ⊢
  clear hC bx hSl hT hen
  generalize plP C x.1.2.2.2.2.1 x.1.2.2.2.2.2 = P at *
  obtain ⟨⟨x0, x1, x2, x3, x4, x5⟩, xf⟩ := x
  dsimp only at *
  by_cases h1 : x0 = 2
  · subst h1
    by_cases h2 : en = 0
    · subst h2
      have hR : T = P := by rw [HT.out, if_neg (by simp)]
      subst hR
      obtain ⟨p1, p2⟩ := T
      dsimp only at *
      clear HT
      go_enter Tryz.func26, Tryz.ntmps26
      go_wp2_with fail
      with_reducible refine Calls.mono HP.out ?_
      rintro e w1 ⟨rfl, hb1⟩
      have hB := Below.on hw hb1
      clear HP hb1
      go_wp2
      exact bodyPost_ret (v := .tuple #[.int .i64 p1, .int .i64 p2]) (by simp [results, Tryz.results26]) rfl ⟨rfl, hB⟩
    · have k1 : ((en : Int) != 0) = true := by simpa using h2
      have k2 : decide ((en : Int) = 0) = false := by simpa using h2
      have hR : T = (0, 1) := by rw [HT.out, if_pos (.inr h2)]
      subst hR
      clear HT HP
      go_enter Tryz.func26, Tryz.ntmps26
      go_wp2
      exact bodyPost_ret (v := .tuple #[.int .i64 0, .int .i64 1]) (by simp [results, Tryz.results26]) rfl ⟨rfl, hw⟩
  · have k1 : (x0 != 2) = true := by simpa using h1
    have k2 : decide (x0 = 2) = false := by simpa using h1
    have hR : T = (0, 1) := by rw [HT.out, if_pos (.inl h1)]
    subst hR
    clear HT HP
    go_enter Tryz.func26, Tryz.ntmps26
    go_wp2
    exact bodyPost_ret (v := .tuple #[.int .i64 0, .int .i64 1]) (by simp [results, Tryz.results26]) rfl ⟨rfl, hw⟩
theorem int1 {Q : Nat → Prop} {w : World} {a : Option Addr} {n c : Nat} {l : List Int} (h : RowIs eInt Q w (.slice a n c) l) {k : Nat} (hk : k < l.length) : ∃ b o, a = some ⟨b, o, none⟩ ∧ w.cell? ⟨b, o + k, none⟩ = some (.int .i64 l[k]) := by
  obtain ⟨ao, n', c', hv, hl, hn, hc, hx⟩ := h
  cases hv
  obtain ⟨b, o, rfl, hq, hi⟩ := hx (by omega)
  obtain ⟨cs, h1, h2, h3⟩ := hi k hk
  have h1' : cs = [.int .i64 l[k]] := h1
  subst h1'
  have := h3 0 (by simp)
  refine ⟨b, o, rfl, ?_⟩
  simpa [eInt] using this
theorem erL_zeroN : ∀ {l : List Int}, (∀ e ∈ l, e = 0) → erL l = 0
  | [], _ => rfl
  | e :: l, h => by rw [erL, if_pos (h e (List.mem_cons_self ..))]; exact erL_zeroN fun x hx => h x (List.mem_cons_of_mem _ hx)
theorem erL_hitN {l : List Int} {k : Nat} (hk : k < l.length) (h0 : ∀ i (hi : i < l.length), i < k → l[i] = 0) (h1 : l[k] ≠ 0) : erL l = l[k] := by
  have e : l = l.take k ++ l[k] :: l.drop (k + 1) := by rw [← List.drop_eq_getElem_cons hk, List.take_append_drop]
  have hz : erL (l.take k) = 0 := erL_zeroN fun x hx => by
    obtain ⟨i, hi, rfl⟩ := List.mem_iff_getElem.1 hx
    rw [List.length_take] at hi
    rw [List.getElem_take]
    exact h0 i (by omega) (by omega)
  conv => lhs; rw [e]
  rw [erL_app, if_pos hz, erL, if_neg h1]
set_option maxRecDepth 100000 in
set_option maxHeartbeats 8000000 in
theorem eachN_any {l : List (Pg × Tg)} (hn5 : l.length ≤ 500) {f : Pg × Tg → Int × Int} {Q : Nat → Prop} {w : World} {a : Option Addr} {n c : Nat} (h : RowIs eG Q w (.slice a n c) l) {N : Nat} {r : Value} (hcf : ∀ args w', (callFunc N args).run Tryz.prog w' = .ok (.enter N args) w')
    (hv : ∀ (x : Pg × Tg) (Q : Nat → Prop) (cs : List Value) (w' : World), Below w.heap.size w w' → eG.E Q w' x cs → Calls Tryz.prog N #[r, .agg cs.toArray] w' fun en w'' => en = .returned (.tuple #[.int .i64 (f x).1, .int .i64 (f x).2]) ∧ Below w'.heap.size w' w'') :
    Calls Tryz.prog 25 #[.slice a n c, .func (.func N) #[r] #[]] w fun e w' => ∃ a' n' c', e = .returned (.tuple #[.slice a' n' c', .int .i64 (erL (l.map fun t => (f t).2))]) ∧ Below w.heap.size w w' ∧ (erL (l.map fun t => (f t).2) = 0 → OwnR 3 1 w.heap.size w' (.slice a' n' c') (l.map fun t => [.int .i64 (f t).1])) := by
  obtain ⟨l1, l2, l3⟩ := row_lens h
  have HR : Hid (∀ w', Below w.heap.size w w' → RowIs eG Q w' (.slice a n c) l) := hid fun w' hb => h.keep (by decide) fun b _ hl => hb.block b hl
  have HV : Hid _ := hid hv
  obtain ⟨E, hE⟩ : ∃ E, erL (l.map fun t => (f t).2) = E := ⟨_, rfl⟩
  rw [hE]
  have HE : Hid _ := hid hE
  clear h hv hE
  obtain ⟨tj, hj1, hj2, hj3, hj4⟩ := info_parts Tryz.infoTInt
  go_enter Tryz.func25, Tryz.ntmps25
  go_upto_region 1 with fail
  go_wp2_with (first | (at_make; go_must (refine wpList_make_own w rfl _ _ 35 rfl w.heap.size 3 tj _ 1 Tryz.underlying35 hj1 hj2 hj3 .i64 .i64 (n : Int) n rfl rfl rfl (by rw [hj4]; omega) (by unfold maxLen; omega) (Nat.le_refl _) ?_)) | fail)
  intro w1 ho hg
  have hb1 : Below w.heap.size w w1 := below_grows (Below.refl _ _) (Nat.le_refl _) hg (by simp)
  have HT : Hid (OwnR 3 1 w.heap.size w1 (.slice (some ⟨w.heap.size, 0, none⟩) 0 n) [] ∧ ∀ i (hi : i < l.length), i < 0 → (f l[i]).2 = 0) := hid ⟨⟨fun cs h => by simp at h, ho⟩, fun i _ h => absurd h (by omega)⟩
  clear ho hg
  go_wp2
  go_loopw [6, 16] (fun v6 v16 wr => ∃ (k : Nat) (va : Option Addr) (vd : Nat), k ≤ n ∧ v16 = .int .i64 k ∧ v6 = .slice va k vd ∧ Below w.heap.size w wr ∧ Hid (OwnR 3 1 w.heap.size wr (.slice va k vd) ((l.take k).map fun t => ([.int .i64 (f t).1] : List Value)) ∧ ∀ i (hi : i < l.length), i < k → (f l[i]).2 = 0)) (fun _ i _ => n - (intOf i).toNat)
  case atStart => exact ⟨0, _, _, Nat.zero_le _, rfl, rfl, hb1, HT⟩
  case round =>
    obtain ⟨k, va, vd, hk, rfl, rfl, hB, HK⟩ := hrel
    clear hb1 HT
    by_cases hlt : k < n
    · have h2 : k < l.length := by omega
      obtain ⟨ao', n', c', e', hn', hnc', hc', hx'⟩ := HR.out wr hB
      cases e'
      obtain ⟨b, o, rfl, hq, hi⟩ := hx' (by omega)
      obtain ⟨cs, hEx, h2', h3'⟩ := hi k h2
      obtain ⟨x, hxl⟩ : ∃ x, l[k] = x := ⟨_, rfl⟩
      rw [hxl] at hEx
      have hEx' := hEx
      obtain ⟨ea, en, ec, hcs, -⟩ := hEx'
      subst hcs
      simp only [exC] at hEx h3'
      have x0 : wr.cell? ⟨b, o + k * 7, none⟩ = some (.int .i64 x.1.1) := h3' 0 (show 0 < 7 by decide)
      have x1 : wr.cell? ⟨b, o + k * 7 + 1, none⟩ = some (.int .i64 x.1.2.1) := h3' 1 (show 1 < 7 by decide)
      have x2 : wr.cell? ⟨b, o + k * 7 + 2, none⟩ = some (.int .i64 x.1.2.2.1) := h3' 2 (show 2 < 7 by decide)
      have x3 : wr.cell? ⟨b, o + k * 7 + 3, none⟩ = some (.string x.1.2.2.2.1) := h3' 3 (show 3 < 7 by decide)
      have x4 : wr.cell? ⟨b, o + k * 7 + 4, none⟩ = some (.string x.1.2.2.2.2.1) := h3' 4 (show 4 < 7 by decide)
      have x5 : wr.cell? ⟨b, o + k * 7 + 5, none⟩ = some (.string x.1.2.2.2.2.2) := h3' 5 (show 5 < 7 by decide)
      have x6 : wr.cell? ⟨b, o + k * 7 + 6, none⟩ = some (.slice ea en ec) := h3' 6 (show 6 < 7 by decide)
      have hwx := bal (Below.refl wr.heap.size wr) (.cells #[.int .i64 x.1.1, .int .i64 x.1.2.1, .int .i64 x.1.2.2.1, .string x.1.2.2.2.1, .string x.1.2.2.2.2.1, .string x.1.2.2.2.2.2, .slice ea en ec] 42)
      have hBx := Below.on hB hwx
      have HTk : Hid _ := hid (HV.out x Q [.int .i64 x.1.1, .int .i64 x.1.2.1, .int .i64 x.1.2.2.1, .string x.1.2.2.2.1, .string x.1.2.2.2.2.1, .string x.1.2.2.2.2.2, .slice ea en ec] (wr.alloc (.cells #[.int .i64 x.1.1, .int .i64 x.1.2.1, .int .i64 x.1.2.2.1, .string x.1.2.2.2.1, .string x.1.2.2.2.2.1, .string x.1.2.2.2.2.2, .slice ea en ec] 42)) hBx (eG.keep (fun b _ hl => hwx.block b hl) hEx))
      have bX := Bk.new wr (.cells #[.int .i64 x.1.1, .int .i64 x.1.2.1, .int .i64 x.1.2.2.1, .string x.1.2.2.2.1, .string x.1.2.2.2.2.1, .string x.1.2.2.2.2.2, .slice ea en ec] 42)
      rw [← hxl] at HTk
      obtain ⟨C, hC⟩ : ∃ C, (l.take k).map (fun t => ([.int .i64 (f t).1] : List Value)) = C := ⟨_, rfl⟩
      obtain ⟨y, hy⟩ : ∃ y, f l[k] = y := ⟨_, rfl⟩
      have HN : Hid ((l.take (k + 1)).map (fun t => ([.int .i64 (f t).1] : List Value)) = C ++ [[.int .i64 y.1]] ∧ C.length = k) := hid ⟨by rw [List.take_succ_eq_append_getElem h2, List.map_append, hC, List.map_cons, List.map_nil, hy], by rw [← hC, List.length_map, List.length_take]; omega⟩
      have HEk : Hid (y.2 ≠ 0 → E = y.2) := hid fun hne => by
        rw [← HE.out]
        have := erL_hitN (l := l.map fun t => (f t).2) (k := k) (by simpa using h2) (fun i hi hik => by rw [List.getElem_map]; exact HK.out.2 i (by simpa using hi) hik) (by rw [List.getElem_map, hy]; exact hne)
        rw [this, List.getElem_map, hy]
      have HZ : Hid (y.2 = 0 → ∀ i (hi : i < l.length), i < k + 1 → (f l[i]).2 = 0) := hid fun h0 i hi hik => by
        by_cases e : i = k
        · subst e; rw [hy]; exact h0
        · exact HK.out.2 i hi (by omega)
      have hO := HK.out.1
      rw [hC] at hO
      rw [hy] at HTk
      rw [hxl] at HTk
      obtain ⟨y0, e⟩ := y
      dsimp only at HTk HN HEk HZ
      have hkm : (k : Int) < (n : Int) := by omega
      have hwk := wrapS hlt l2 l3
      have HO : Hid _ := hid hO
      clear hC hy hO HR h2 HK hEx h2' h3' hi hx' hq hxl HV
      go_upto_region 5 with fail
      obtain ⟨qb, hqb⟩ : ∃ qb, wr.heap.size = qb := ⟨_, rfl⟩
      rw [hqb] at bX
      (try rw [hqb])
      clear hqb
      generalize wr.alloc (.cells #[.int .i64 x.1.1, .int .i64 x.1.2.1, .int .i64 x.1.2.2.1, .string x.1.2.2.2.1, .string x.1.2.2.2.2.1, .string x.1.2.2.2.2.2, .slice ea en ec] 42) = Wx at *
      obtain ⟨z0, z1, z2, z3, z4, z5, z6⟩ : Wx.cell? ⟨qb, 0, none⟩ = some (.int .i64 x.1.1) ∧ Wx.cell? ⟨qb, 1, none⟩ = some (.int .i64 x.1.2.1) ∧ Wx.cell? ⟨qb, 2, none⟩ = some (.int .i64 x.1.2.2.1) ∧ Wx.cell? ⟨qb, 3, none⟩ = some (.string x.1.2.2.2.1) ∧ Wx.cell? ⟨qb, 4, none⟩ = some (.string x.1.2.2.2.2.1) ∧ Wx.cell? ⟨qb, 5, none⟩ = some (.string x.1.2.2.2.2.2) ∧ Wx.cell? ⟨qb, 6, none⟩ = some (.slice ea en ec) := ⟨bX.cell 0, bX.cell 1, bX.cell 2, bX.cell 3, bX.cell 4, bX.cell 5, bX.cell 6⟩
      have HOx : Hid _ := hid (HO.out.later hwx)
      clear bX HO x0 x1 x2 x3 x4 x5 x6
      go_wp2_with fail
      refine Calls.mono HTk.out ?_
      rintro e' w4 ⟨rfl, hb4⟩
      have hZ5 := Below.on hBx hb4
      have HO4 : Hid _ := hid (HOx.out.later hb4)
      clear HTk HOx hb4 hwx hBx z0 z1 z2 z3 z4 z5 z6
      by_cases h0 : e = 0
      · subst h0
        have hZz := HZ.out rfl
        have hO4 := HO4.out
        have ho5 := hO4.alloc (.cells #[.int .i64 y0] 3)
        have hblk := hO4.blk
        have hZ6 := hZ5.alloc hZ5.size (.cells #[.int .i64 y0] 3)
        have hZ6' : w.heap.size ≤ (w4.alloc (.cells #[.int .i64 y0] 3)).heap.size := hZ6.size
        have hcl : C.length ≤ 1000 := by have := HN.out.2; omega
        have HZz : Hid _ := hid hZz
        clear HEk HZ HO4 hZz hO4
        go_wp2_with (first | (at_builtin; go_must (refine wpList_appR Tryz.underlying35 Tryz.infoTInt rfl (by decide) (by decide) rfl (.tmp 29) (.tmp 31) rfl _ C w4.heap.size [.int .i64 y0] rfl rfl ho5 rfl (by simp [Value.oneCell']) (newV1 w4 _ _) hcl hZ6' ?_)) | fail)
        intro v' w6 hO6 hg6 hown
        have hB7 := below_grows hZ6 hZ6' hg6 fun k e => (hblk k e).1
        obtain ⟨a2, m2, dd2, rfl⟩ := hO6.sl
        obtain rfl : m2 = k + 1 := by
          have := hO6.lenV
          rw [this, List.length_append, HN.out.2]; rfl
        have HQ : Hid (OwnR 3 1 w.heap.size w6 (.slice a2 (k + 1) dd2) ((l.take (k + 1)).map fun t => ([.int .i64 (f t).1] : List Value)) ∧ ∀ i (hi : i < l.length), i < k + 1 → (f l[i]).2 = 0) := hid ⟨by rw [HN.out.1]; exact hO6, HZz.out⟩
        clear hg6 hown ho5 hZ5 hZ6 hblk HN HZz hO6
        go_wp2
        go_roundw
        case rel => exact ⟨k + 1, a2, _, by omega, by go_num, rfl, hB7, HQ⟩
        case measure => simp only [intOf]; omega
      · have k0 : decide (e = 0) = false := by simpa using h0
        have l0 : (e != 0) = true := by simpa using h0
        have hEe := HEk.out h0
        subst hEe
        clear HEk HZ HN HO4
        go_wp2
        exact bodyPost_ret (v := .tuple #[.slice none 0 0, .int .i64 E]) (by simp [results, Tryz.results25]) rfl ⟨none, 0, 0, rfl, hZ5, fun h => absurd h h0⟩
    · obtain rfl : k = n := by omega
      have hE0 : E = 0 := by
        rw [← HE.out]
        exact erL_zeroN fun x hx => by
          obtain ⟨t, ht, rfl⟩ := List.mem_map.1 hx
          obtain ⟨i, hi, rfl⟩ := List.mem_iff_getElem.1 ht
          exact HK.out.2 i hi (by omega)
      subst hE0
      have hO := HK.out.1
      rw [List.take_of_length_le (by omega)] at hO
      have HO : Hid _ := hid hO
      have hkm : ¬ (k : Int) < (k : Int) := by omega
      clear HK hO HR HE HV
      go_wp2
      exact bodyPost_ret (v := .tuple #[.slice va k vd, .int .i64 0]) (by simp [results, Tryz.results25]) rfl ⟨va, k, vd, rfl, hB, by first | exact fun _ => HO.out | exact HO.out⟩

set_option maxRecDepth 100000 in
set_option maxHeartbeats 4000000 in
theorem joinedF_any {la : Option Addr} {ln lc : Nat} {ra : Option Addr} {rn rc : Nat} {a b : Int} (w : World) :
    Calls Tryz.prog 27 #[.slice la ln lc, .slice ra rn rc, .int .i64 a, .int .i64 b] w fun e w' => ∃ b1 b2 b3 b4, e = .returned (.func (.func 48) #[] #[.pointer (some ⟨b1, 0, none⟩), .pointer (some ⟨b2, 0, none⟩), .pointer (some ⟨b3, 0, none⟩), .pointer (some ⟨b4, 0, none⟩)]) ∧ w'.cell? ⟨b1, 0, none⟩ = some (.slice la ln lc) ∧ w'.cell? ⟨b2, 0, none⟩ = some (.slice ra rn rc) ∧ w'.cell? ⟨b3, 0, none⟩ = some (.int .i64 a) ∧ w'.cell? ⟨b4, 0, none⟩ = some (.int .i64 b) ∧ Below w.heap.size w w' := by
  have hw := bal (bal (bal (bal (Below.refl w.heap.size w) (.cells #[.slice la ln lc] 33)) (.cells #[.slice ra rn rc] 33)) (.cells #[.int .i64 a] 3)) (.cells #[.int .i64 b] 3)
  have k1 : Bk ((((w.alloc (.cells #[.slice la ln lc] 33)).alloc (.cells #[.slice ra rn rc] 33)).alloc (.cells #[.int .i64 a] 3)).alloc (.cells #[.int .i64 b] 3)) w.heap.size (.cells #[.slice la ln lc] 33) := (((Bk.new w (.cells #[.slice la ln lc] 33)).later (bal (Below.refl _ _) (.cells #[.slice ra rn rc] 33))).later (bal (Below.refl _ _) (.cells #[.int .i64 a] 3))).later (bal (Below.refl _ _) (.cells #[.int .i64 b] 3))
  have k2 : Bk ((((w.alloc (.cells #[.slice la ln lc] 33)).alloc (.cells #[.slice ra rn rc] 33)).alloc (.cells #[.int .i64 a] 3)).alloc (.cells #[.int .i64 b] 3)) (w.heap.size + 1) (.cells #[.slice ra rn rc] 33) := by
    have := ((Bk.new (w.alloc (.cells #[.slice la ln lc] 33)) (.cells #[.slice ra rn rc] 33)).later (bal (Below.refl _ _) (.cells #[.int .i64 a] 3))).later (bal (Below.refl _ _) (.cells #[.int .i64 b] 3))
    rwa [World.size_alloc] at this
  have k3 : Bk ((((w.alloc (.cells #[.slice la ln lc] 33)).alloc (.cells #[.slice ra rn rc] 33)).alloc (.cells #[.int .i64 a] 3)).alloc (.cells #[.int .i64 b] 3)) (w.heap.size + 1 + 1) (.cells #[.int .i64 a] 3) := by
    have := (Bk.new ((w.alloc (.cells #[.slice la ln lc] 33)).alloc (.cells #[.slice ra rn rc] 33)) (.cells #[.int .i64 a] 3)).later (bal (Below.refl _ _) (.cells #[.int .i64 b] 3))
    rwa [World.size_alloc, World.size_alloc] at this
  have k4 : Bk ((((w.alloc (.cells #[.slice la ln lc] 33)).alloc (.cells #[.slice ra rn rc] 33)).alloc (.cells #[.int .i64 a] 3)).alloc (.cells #[.int .i64 b] 3)) (w.heap.size + 1 + 1 + 1) (.cells #[.int .i64 b] 3) := by
    have := Bk.new (((w.alloc (.cells #[.slice la ln lc] 33)).alloc (.cells #[.slice ra rn rc] 33)).alloc (.cells #[.int .i64 a] 3)) (.cells #[.int .i64 b] 3)
    rwa [World.size_alloc, World.size_alloc, World.size_alloc] at this
  have hmf : ∀ (fn : Fn) (first cap : Array Value) (w : World), (Instr.makeFunc fn first cap).run Tryz.prog w = .ok (.func fn first cap) w := fun _ _ _ _ => rfl
  have HQ : Hid _ := hid (And.intro (show ((((w.alloc (.cells #[.slice la ln lc] 33)).alloc (.cells #[.slice ra rn rc] 33)).alloc (.cells #[.int .i64 a] 3)).alloc (.cells #[.int .i64 b] 3)).cell? ⟨w.heap.size, 0, none⟩ = some (.slice la ln lc) from k1.cell 0) (And.intro (show ((((w.alloc (.cells #[.slice la ln lc] 33)).alloc (.cells #[.slice ra rn rc] 33)).alloc (.cells #[.int .i64 a] 3)).alloc (.cells #[.int .i64 b] 3)).cell? ⟨w.heap.size + 1, 0, none⟩ = some (.slice ra rn rc) from k2.cell 0) (And.intro (show ((((w.alloc (.cells #[.slice la ln lc] 33)).alloc (.cells #[.slice ra rn rc] 33)).alloc (.cells #[.int .i64 a] 3)).alloc (.cells #[.int .i64 b] 3)).cell? ⟨w.heap.size + 1 + 1, 0, none⟩ = some (.int .i64 a) from k3.cell 0) (And.intro (show ((((w.alloc (.cells #[.slice la ln lc] 33)).alloc (.cells #[.slice ra rn rc] 33)).alloc (.cells #[.int .i64 a] 3)).alloc (.cells #[.int .i64 b] 3)).cell? ⟨w.heap.size + 1 + 1 + 1, 0, none⟩ = some (.int .i64 b) from k4.cell 0) hw))))
  clear k1 k2 k3 k4 hw
  go_enter Tryz.func27, Tryz.ntmps27
  go_wp2
  go_ret
  obtain ⟨q1, q2, q3, q4, q5⟩ := HQ.out
  exact ⟨_, _, _, _, rfl, q1, q2, q3, q4, q5⟩

end Go.Proofs.YtnlaaejdianfjabGreat
