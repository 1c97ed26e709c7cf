import Derived.Test.YtnlaaejdianfjabGreatQpad
namespace Go.Proofs.YtnlaaejdianfjabGreat
open Go.RowKit
set_option linter.unusedVariables false
set_option linter.unusedSimpArgs false

set_option maxRecDepth 100000 in
set_option maxHeartbeats 2000000 in
theorem idxIt_any {l : List It} {p : It → Bool} (hlen : l.length ≤ 500) {Q : Nat → Prop} {w : World} {ao : Option Addr} {n c : Nat} (h : RowIs eItem Q w (.slice ao n c) l) {v : Value} (hv : SuchZ eItem p w v) :
    Calls Tryz.prog 30 #[.slice ao n c, v] w fun en w' => en = .returned (.int .i64 (fidx p l)) ∧ Below w.heap.size w w' := by
  have HR : Hid (∀ w', Below w.heap.size w w' → RowIs eItem Q w' (.slice ao n c) l) := hid fun w' hb => h.keep (by decide) fun b _ hl => hb.block b hl
  obtain ⟨N, caps, rfl, hcf, hN⟩ := hv
  have HN : Hid (∀ (x : It) (Q : Nat → Prop) (cs : List Value) (w' : World), Below w.heap.size w w' → _) := hid hN
  obtain ⟨ao', n', c', e', hn, hnc, hc, _⟩ := h
  cases e'
  subst hn
  obtain ⟨R, hR⟩ : ∃ R, fidx p l = R := ⟨_, rfl⟩
  have HF : Hid _ := hid hR
  rw [hR]
  clear hN hR
  go_enter Tryz.func30, Tryz.ntmps30
  go_wp2
  go_loopw [5, 8] (fun _ v8 wr => ∃ k : Nat, k ≤ l.length ∧ v8 = .int .i64 k ∧ Below w.heap.size w wr ∧ Hid (∀ i (hi : i < l.length), i < k → p l[i] = false)) (fun _ i _ => l.length - (intOf i).toNat)
  case atStart => exact ⟨0, Nat.zero_le _, rfl, Below.refl _ _, hid fun i h hi => absurd hi (by omega)⟩
  case round =>
    obtain ⟨k, hk, rfl, hB, HE⟩ := hrel
    by_cases hlt : k < l.length
    · obtain ⟨_, _, _, e', _, _, _, hx⟩ := HR.out wr hB
      cases e'
      obtain ⟨b, o, rfl, hq, hi⟩ := hx (by omega)
      obtain ⟨cs, hEx, h2, h3⟩ := hi k hlt
      obtain ⟨x, hxl⟩ : ∃ x, l[k] = x := ⟨_, rfl⟩
      rw [hxl] at hEx
      have hEx' := hEx
      obtain rfl := hEx'
      have c0 : wr.cell? ⟨b, o + k * 3, none⟩ = some (.int .i64 x.1) := h3 0 (show 0 < 3 by decide)
      have c1 : wr.cell? ⟨b, o + k * 3 + 1, none⟩ = some (.string x.2.1) := h3 1 (show 1 < 3 by decide)
      have c2 : wr.cell? ⟨b, o + k * 3 + 2, none⟩ = some (.string x.2.2) := h3 2 (show 2 < 3 by decide)
      have HX := HN.out x _ _ wr hB hEx
      have hkm : (k : Int) < (l.length : Int) := by omega
      have hk5 : k ≤ 500 := by omega
      have HXl : Hid _ := hid hxl
      clear hEx h2 h3 hi hx hxl
      cases hp : p x with
      | true =>
        rw [hp] at HX
        have HP : Hid (fidx p l = k) := hid (fidx_hit hlt HE.out (by rw [HXl.out]; exact hp))
        replace HX : Hid _ := hid HX
        clear hp
        go_wp2_with fail
        refine Calls.mono HX.out ?_
        rintro e w4 ⟨rfl, hb4⟩
        have hB4 : Below w.heap.size w w4 := Below.on hB hb4
        clear HX hb4 hB
        go_wp2
        go_ret
        exact ⟨ret_int (by rw [← HF.out, HP.out]), hB4⟩
      | false =>
        rw [hp] at HX
        have HN2 : Hid (∀ i (hi : i < l.length), i < k + 1 → p l[i] = false) := hid fun i hi hik => by
          by_cases he : i < k
          · exact HE.out i hi he
          · obtain rfl : i = k := by omega
            rw [HXl.out]; exact hp
        replace HX : Hid _ := hid HX
        clear hp HE
        go_wp2_with fail
        refine Calls.mono HX.out ?_
        rintro e w4 ⟨rfl, hb4⟩
        have hB4 : Below w.heap.size w w4 := Below.on hB hb4
        clear HX hb4 hB
        go_wp2
        go_roundw
        case rel => exact ⟨k + 1, hlt, by go_num, hB4, HN2⟩
        case measure => simp only [intOf]; omega
    · obtain rfl : k = l.length := by omega
      have HP : Hid (fidx p l = -1) := hid (fidx_none fun i hi => HE.out i hi hi)
      clear HE
      go_wp2
      go_ret
      exact ⟨ret_int (by rw [← HF.out, HP.out]), hB⟩


theorem fidxV_any {α : Type} (p : α → Bool) (l : List α) : decide (0 ≤ fidx p l) = l.any p := by
  rw [Bool.eq_iff_iff, decide_eq_true_eq, List.any_eq_true]
  constructor
  · intro h
    rcases fidx_vals p l with e | ⟨k, e, hk⟩
    · omega
    · obtain ⟨hk', hp⟩ := fidx_at e
      exact ⟨_, List.getElem_mem hk', hp⟩
  · rintro ⟨x, hx, hp⟩
    rcases fidx_vals p l with e | ⟨k, e, hk⟩
    · exfalso
      unfold fidx at e
      split at e
      · omega
      · rename_i hn
        exact hn (List.findIdx_lt_length_of_exists ⟨x, hx, hp⟩)
    · omega
theorem emptyV_str (t : ByteArray) : t.toList.isEmpty = decide (t = ⟨#[]⟩) := by
  have h := same_str t ⟨#[]⟩
  rw [← h, ByteArray.toList_eq, ByteArray.toList_eq]
  cases t.data.toList <;> rfl
theorem neV_str {s t : ByteArray} (h : s ≠ t) : (s.toList == t.toList) = false := by rw [same_str]; simpa using h
theorem SuchZ.later {α : Type} {e : Ek α} {p : α → Bool} {w w' : World} {v : Value} (h : SuchZ e p w v) (hb : Below w.heap.size w w') : SuchZ e p w' v := by
  obtain ⟨N, caps, rfl, hcf, hN⟩ := h
  exact ⟨N, caps, rfl, hcf, fun x Q cs w2 hb2 hx => hN x Q cs w2 (Below.on hb hb2) hx⟩

set_option maxRecDepth 100000 in
set_option maxHeartbeats 2000000 in
theorem containsIt_any {l : List It} {p : It → Bool} (hlen : l.length ≤ 500) {Q : Nat → Prop} {w : World} {ao : Option Addr} {n c : Nat} (h : RowIs eItem Q w (.slice ao n c) l) {v : Value} (hv : SuchZ eItem p w v) :
    Calls Tryz.prog 15 #[.slice ao n c, v] w fun en w' => en = .returned (.bool (l.any p)) ∧ Below w.heap.size w w' := by
  have HC : Hid _ := hid (idxIt_any hlen h hv)
  have he := fidxV_any p l
  obtain ⟨N, caps, rfl, hcf, hN⟩ := hv
  clear h hN
  generalize fidx p l = R at *
  have HE : Hid _ := hid he
  clear he
  go_enter Tryz.func15, Tryz.ntmps15
  go_wp2_with fail
  refine Calls.mono HC.out ?_
  rintro e w4 ⟨rfl, hb4⟩
  go_wp2
  go_ret
  exact ⟨ret_bool HE.out, hb4⟩
set_option maxRecDepth 100000 in
theorem slice_itemsOff {ao : Option Addr} {n c k : Nat} (hr : k + 1 ≤ n) (hc : n ≤ c) (hm : c ≤ 9223372036854775807) (w' : World) : (Instr.slice 44 (.slice ao n c) (some (.int .i64 ((k : Int) + 1))) none none).run Tryz.prog w' = .ok (.slice (if c = k + 1 then ao else ao.map (·.add ((k + 1) * 3))) (n - (k + 1)) (c - (k + 1))) w' := by
  have g1 : ((k : Int) + 1) = ((k + 1 : Nat) : Int) := by omega
  rw [g1]
  generalize k + 1 = m at *
  have g2 : m ≤ c := by omega
  have g3 : (m : Int) ≤ (n : Int) := by omega
  have g4 : (n : Int) ≤ (c : Int) := by omega
  have g5 : ¬ (n : Int) < (m : Int) := by omega
  cases ao with
  | none => go_simp
  | some a => go_simp
theorem addV_off (b o m : Nat) : (⟨b, o, none⟩ : Addr).add m = ⟨b, o + m, none⟩ := by unfold Addr.add; split <;> simp_all
def onlyB {α : Type} (p : α → Bool) (l : List α) : Bool := decide (0 ≤ fidx p l) && !((l.drop ((fidx p l).toNat + 1)).any p)
set_option maxRecDepth 100000 in
set_option maxHeartbeats 2000000 in
theorem onlyIt_any {l : List It} {p : It → Bool} (hlen : l.length ≤ 500) {Q : Nat → Prop} {w : World} {ao : Option Addr} {n c : Nat} (h : RowIs eItem Q w (.slice ao n c) l) {v : Value} (hv : SuchZ eItem p w v) :
    Calls Tryz.prog 89 #[.slice ao n c, v] w fun en w' => en = .returned (.tuple #[.int .i64 (fidx p l), .bool (onlyB p l)]) ∧ Below w.heap.size w w' := by
  have HC : Hid _ := hid (idxIt_any hlen h hv)
  obtain ⟨hn, hnc, hcm⟩ := row_lens h
  have hv' := hv
  obtain ⟨N, caps, rfl, hcf, hN⟩ := hv'
  rcases fidx_vals p l with e | ⟨k, e, hk⟩
  · have hB : onlyB p l = false := by unfold onlyB; rw [e]; simp
    rw [hB, e]
    rw [e] at HC
    clear hB h hv hN
    go_enter Tryz.func89, Tryz.ntmps89
    go_wp2_with fail
    refine Calls.mono HC.out ?_
    rintro e w4 ⟨rfl, hb4⟩
    clear HC
    go_wp2
    exact bodyPost_ret (v := .tuple #[.int .i64 (-1), .bool false]) (by simp [results, Tryz.results89]) rfl ⟨rfl, hb4⟩
  · have hB : onlyB p l = !((l.drop (k + 1)).any p) := by unfold onlyB; rw [e]; simp
    rw [hB, e]
    rw [e] at HC
    have hsl := fun w' => slice_itemsOff (ao := ao) (n := n) (c := c) (k := k) (by omega) hnc hcm w'
    obtain ⟨ao', hao⟩ : ∃ ao', (if c = k + 1 then ao else ao.map (·.add ((k + 1) * 3))) = ao' := ⟨_, rfl⟩
    rw [hao] at hsl
    have HS : Hid (∀ w', Below w.heap.size w w' → Calls Tryz.prog 15 #[.slice ao' (n - (k + 1)) (c - (k + 1)), .func (.func N) #[] caps] w' fun en w'' => en = .returned (.bool ((l.drop (k + 1)).any p)) ∧ Below w'.heap.size w' w'') := hid fun w' hb =>
      containsIt_any (by rw [List.length_drop]; omega) ((h.keep (by decide) fun b _ hl => hb.block b hl).off (m := k + 1) (by omega) (fun b o e' hlt => by rw [← hao, if_neg (by omega), e', Option.map_some, addV_off]; rfl)) (hv.later hb)
    generalize (l.drop (k + 1)).any p = T at *
    generalize n - (k + 1) = n' at *
    generalize c - (k + 1) = c' at *
    have hk5 : k ≤ 500 := by omega
    clear hB h hv hN hao
    go_enter Tryz.func89, Tryz.ntmps89
    go_wp2_with fail
    refine Calls.mono HC.out ?_
    rintro e w4 ⟨rfl, hb4⟩
    have HS2 : Hid _ := hid (HS.out _ hb4)
    clear HC HS
    go_wp2_with fail
    refine Calls.mono HS2.out ?_
    rintro e w5 ⟨rfl, hb5⟩
    have hB5 := Below.on hb4 hb5
    clear HS2 hb4 hb5
    go_wp2
    exact bodyPost_ret (v := .tuple #[.int .i64 k, .bool (!T)]) (by simp [results, Tryz.results89]) rfl ⟨rfl, hB5⟩

set_option maxRecDepth 100000 in
set_option maxHeartbeats 2000000 in
theorem columnV1_any (tb nm : ByteArray) (x : It) {w : World} {b1 b2 : Nat} (h1 : w.cell? ⟨b1, 0, none⟩ = some (.string nm)) (h2 : w.cell? ⟨b2, 0, none⟩ = some (.string tb)) :
    Calls Tryz.prog 90 #[.agg #[.int .i64 x.1, .string x.2.1, .string x.2.2], .pointer (some ⟨b1, 0, none⟩), .pointer (some ⟨b2, 0, none⟩)] w fun en w' => en = .returned (.bool (itV tb nm x)) ∧ Below w.heap.size w w' := by
  obtain ⟨x1, x2, x3⟩ := x
  have hb := bal (Below.refl w.heap.size w) (.cells #[.int .i64 x1, .string x2, .string x3] 68)
  have q1 := cell_later hb h1
  have q2 := cell_later hb h2
  have d1 := cell_new w #[.int .i64 x1, .string x2, .string x3] 68 (0, 0) 1
  have d2 := cell_new w #[.int .i64 x1, .string x2, .string x3] 68 (0, 0) 2
  simp only [List.getElem?_toArray, List.getElem?_cons_zero, List.getElem?_cons_succ] at d1 d2
  have HT : Hid (itV tb nm (x1, x2, x3) = (decide (x3 = nm) && (decide (tb = ⟨#[]⟩) || decide (x2 = tb)))) := hid rfl
  generalize itV tb nm (x1, x2, x3) = T at *
  clear h1 h2
  go_enter Tryz.func90, Tryz.ntmps90
  go_upto_region 1 with fail
  generalize w.alloc (.cells #[.int .i64 x1, .string x2, .string x3] 68) = W at *
  by_cases h1 : x3 = nm
  · have HT2 : Hid (T = (decide (tb = ⟨#[]⟩) || decide (x2 = tb))) := hid (by rw [HT.out, h1]; simp)
    by_cases h2 : tb = ⟨#[]⟩
    · have HT3 : Hid (T = true) := hid (by rw [HT2.out, h2]; simp)
      have e1 : decide (x3 = nm) = true := by simpa using h1
      have e2 : decide (tb = ⟨#[]⟩) = true := by simpa using h2
      subst h1
      subst h2
      clear HT HT2
      go_wp2
      go_ret
      exact ⟨ret_bool HT3.out.symm, hb⟩
    · have HT3 : Hid (T = decide (x2 = tb)) := hid (by rw [HT2.out]; simp [h2])
      have e2 : tb.toList.isEmpty = false := by rw [emptyV_str]; simpa using h2
      have e3 : (x2.toList == tb.toList) = T := by rw [HT3.out, same_str]
      subst h1
      clear HT HT2
      go_wp2
      go_ret
      exact ⟨rfl, hb⟩
  · have HT3 : Hid (T = false) := hid (by rw [HT.out]; simp [h1])
    have e1 : (x3.toList == nm.toList) = false := neV_str h1
    clear HT
    go_wp2
    go_ret
    exact ⟨ret_bool HT3.out.symm, hb⟩

set_option maxRecDepth 100000 in
set_option maxHeartbeats 2000000 in
theorem columnV_any {C : List It} {V : List Vt} (hlen : C.length ≤ 500) (hCV : C.length = V.length) (tb nm : ByteArray) {Q Q2 : Nat → Prop} {w : World} {a a2 : Option Addr} {n c n2 c2 : Nat} (hC : RowIs eItem Q w (.slice a n c) C) (hV : RowIs eVal Q2 w (.slice a2 n2 c2) V) :
    Calls Tryz.prog 80 #[.agg #[.slice a n c, .slice a2 n2 c2], .string tb, .string nm] w fun en w' => en = .returned (.tuple #[vV (colV C V tb nm).1, .int .i64 (colV C V tb nm).2]) ∧ Below w.heap.size w w' := by
  have hw := bal (bal (bal (bal (Below.refl w.heap.size w) (.cells #[.slice a n c, .slice a2 n2 c2] 113)) (.cells #[.string tb] 9)) (.cells #[.string nm] 9)) zV
  obtain ⟨hn2, hnc2, hcm2⟩ := row_lens hV
  obtain ⟨hn1, hnc1, hcm1⟩ := row_lens hC
  have bS : Bk ((((w.alloc (.cells #[.slice a n c, .slice a2 n2 c2] 113)).alloc (.cells #[.string tb] 9)).alloc (.cells #[.string nm] 9)).alloc zV) w.heap.size (.cells #[.slice a n c, .slice a2 n2 c2] 113) := (((Bk.new w _).later (bal (Below.refl _ _) _)).later (bal (Below.refl _ _) _)).later (bal (Below.refl _ _) _)
  have bT : Bk ((((w.alloc (.cells #[.slice a n c, .slice a2 n2 c2] 113)).alloc (.cells #[.string tb] 9)).alloc (.cells #[.string nm] 9)).alloc zV) (w.heap.size + 1) (.cells #[.string tb] 9) := by
    have := ((Bk.new (w.alloc (.cells #[.slice a n c, .slice a2 n2 c2] 113)) (.cells #[.string tb] 9)).later (bal (Below.refl _ _) (.cells #[.string nm] 9))).later (bal (Below.refl _ _) zV)
    rwa [World.size_alloc] at this
  have bN : Bk ((((w.alloc (.cells #[.slice a n c, .slice a2 n2 c2] 113)).alloc (.cells #[.string tb] 9)).alloc (.cells #[.string nm] 9)).alloc zV) (w.heap.size + 2) (.cells #[.string nm] 9) := by
    have := (Bk.new ((w.alloc (.cells #[.slice a n c, .slice a2 n2 c2] 113)).alloc (.cells #[.string tb] 9)) (.cells #[.string nm] 9)).later (bal (Below.refl _ _) zV)
    rwa [World.size_alloc, World.size_alloc] at this
  have hz : Bv ((((w.alloc (.cells #[.slice a n c, .slice a2 n2 c2] 113)).alloc (.cells #[.string tb] 9)).alloc (.cells #[.string nm] 9)).alloc zV) (w.heap.size + 3) 0 0 ⟨#[]⟩ := by
    have := Bv.new (((w.alloc (.cells #[.slice a n c, .slice a2 n2 c2] 113)).alloc (.cells #[.string tb] 9)).alloc (.cells #[.string nm] 9))
    rwa [World.size_alloc, World.size_alloc, World.size_alloc] at this
  generalize hW : (((w.alloc (.cells #[.slice a n c, .slice a2 n2 c2] 113)).alloc (.cells #[.string tb] 9)).alloc (.cells #[.string nm] 9)).alloc zV = W at hw bS bT bN hz
  have s0 := bS.cell 0
  have s1 := bS.cell 1
  have t0 := bT.cell 0
  have n0 := bN.cell 0
  simp only [List.getElem?_toArray, List.getElem?_cons_zero, List.getElem?_cons_succ] at s0 s1 t0 n0
  have HS : SuchZ eItem (itV tb nm) W (.func (.func 90) #[] #[.pointer (some ⟨w.heap.size + 2, 0, none⟩), .pointer (some ⟨w.heap.size + 1, 0, none⟩)]) :=
    ⟨_, _, rfl, fun args w' => by rfl, fun x Q cs w' hb hx => by
      have hx' : cs = [.int .i64 x.1, .string x.2.1, .string x.2.2] := hx
      subst hx'
      exact columnV1_any tb nm x (cell_later hb n0) (cell_later hb t0)⟩
  have HC : Hid _ := hid (onlyIt_any hlen (hC.keep (by decide) fun b _ hl => hw.block b hl) HS)
  have hV1 := hV.keep (w' := W) (by decide) fun b _ hl => hw.block b hl
  clear hC hV bS bT bN HS t0 n0
  cases ho : onlyB (itV tb nm) C with
  | false =>
    rw [ho] at HC
    have hR : colV C V tb nm = (vZ, 10) := by
      unfold colV
      rw [if_neg]
      intro hh
      rw [onlyB, hh.2, Bool.not_false, Bool.and_true, decide_eq_false_iff_not] at ho
      exact ho hh.1
    rw [hR]
    clear hR ho hV1
    generalize fidx (itV tb nm) C = K at *
    go_enter Tryz.func80, Tryz.ntmps80
    go_wp2_with fail
    refine Calls.mono HC.out ?_
    rintro e w4 ⟨rfl, hb4⟩
    have hB4 := Below.on hw hb4
    have hz4 := hz.later hb4
    obtain ⟨c0, c1, c2⟩ := hz4.cells
    obtain ⟨f0, f1, f2⟩ := hz4.free
    have hl := hz4.lt
    clear HC hz hz4 hb4 hw hW
    go_wp2
    exact bodyPost_ret (v := .tuple #[vV vZ, .int .i64 10]) (by simp [results, Tryz.results80, go_sem, c0, c1, c2]) rfl ⟨rfl, below3 hB4 (by omega) _ _ _⟩
  | true =>
    rw [ho] at HC
    have ho' := ho
    rw [onlyB, Bool.and_eq_true, decide_eq_true_eq, Bool.not_eq_true'] at ho'
    rcases fidx_vals (itV tb nm) C with e | ⟨k, e, hk⟩
    · omega
    have hkV : k < V.length := by omega
    have hR : colV C V tb nm = (V[k], 0) := by
      unfold colV
      rw [if_pos ho', e, Int.toNat_natCast, List.getElem?_eq_getElem hkV]
      rfl
    obtain ⟨x, hx⟩ : ∃ x, V[k] = x := ⟨_, rfl⟩
    rw [hx] at hR
    rw [hR]
    rw [e] at HC
    obtain ⟨b, o, rfl, -, x0, x1, x2⟩ := val1 hV1 hkV
    rw [hx] at x0 x1 x2
    have hkn : (k : Int) < (n2 : Int) := by omega
    have hk5 : k ≤ 500 := by omega
    clear hR ho ho' hV1 hx e hCV hlen
    go_enter Tryz.func80, Tryz.ntmps80
    go_wp2_with fail
    refine Calls.mono HC.out ?_
    rintro e w4 ⟨rfl, hb4⟩
    have hB4 := Below.on hw hb4
    have hz4 := hz.later hb4
    obtain ⟨c0, c1, c2⟩ := hz4.cells
    obtain ⟨f0, f1, f2⟩ := hz4.free
    have hl := hz4.lt
    replace s1 := cell_later hb4 s1
    replace x0 := cell_later hb4 x0
    replace x1 := cell_later hb4 x1
    replace x2 := cell_later hb4 x2
    obtain ⟨v0, v1, v2⟩ := x
    clear HC hz hz4 hb4 hw hW s0
    go_wp2
    exact bodyPost_ret (v := .tuple #[vV (v0, v1, v2), .int .i64 0]) (by simp [results, Tryz.results80, go_sem, c0, c1, c2]) rfl ⟨rfl, below3 hB4 (by omega) _ _ _⟩

end Go.Proofs.YtnlaaejdianfjabGreat
namespace Go.Proofs.YtnlaaejdianfjabGreat
open Go.RowKit
set_option linter.unusedVariables false
set_option linter.unusedSimpArgs false

theorem Tryz.infoTVal : (Tryz.prog.info? 39).map (fun i => (i.zero, i.size, i.bytes)) = some (some (.agg #[.int .i64 0, .int .i64 0, .string ⟨#[]⟩]), 3, 32) := by kernel_rfl
/-- A function value, bound to r, that tells a value and a fault of an expression. -/
def EvF (f : Pg × Tg → Vt × Int) (P : Pg × Tg → Prop) (w : World) (N : Nat) (r : Value) : Prop := (∀ args w', (callFunc N args).run Tryz.prog w' = .ok (.enter N args) w') ∧ ∀ (x : Pg × Tg) (Q : Nat → Prop) (cs : List Value) (w' : World), P x → Below w.heap.size w w' → eG.E Q w' x cs → Calls Tryz.prog N #[r, .agg cs.toArray] w' fun en w'' => en = .returned (.tuple #[vV (f x).1, .int .i64 (f x).2]) ∧ Below w'.heap.size w' w''
theorem EvF.later {f : Pg × Tg → Vt × Int} {P : Pg × Tg → Prop} {w w' : World} {N : Nat} {r : Value} (h : EvF f P w N r) (hb : Below w.heap.size w w') : EvF f P w' N r := ⟨h.1, fun x Q cs w2 hp hb2 hx => h.2 x Q cs w2 hp (Below.on hb hb2) hx⟩
theorem EvF.lat {f : Pg × Tg → Vt × Int} {P : Pg × Tg → Prop} {w W Wc w' : World} {N : Nat} {r : Value} (h : EvF f P w N r) (hw : Below w.heap.size w W) (h2 : Below W.heap.size W Wc) (h3 : Below W.heap.size Wc w') : EvF f P w' N r := h.later (hw.trans ((h2.trans h3).mono hw.size))
set_option maxRecDepth 100000 in
set_option maxHeartbeats 4000000 in
theorem eachE1_any {f : Pg × Tg → Vt × Int} {P : Pg × Tg → Prop} {B bf N : Nat} {r : Value} {w' : World} (hv : EvF f P w' N r) (hB : B ≤ w'.heap.size) (hf : w'.cell? ⟨bf, 0, none⟩ = some (.func (.func N) #[r] #[])) {Q : Nat → Prop} {x : Pg × Tg} (hP : P x) {a : Option Addr} {m d : Nat} {css : List (List Value)} (ho : OwnR 39 3 B w' (.slice a m d) css) (hl : css.length ≤ 500) {cs : List Value} (hx : eG.E Q w' x cs) :
    Calls Tryz.prog 96 #[.slice a m d, .agg cs.toArray, .pointer (some ⟨bf, 0, none⟩)] w' fun en w'' => ∃ a2 m2 d2, en = .returned (.tuple #[.slice a2 m2 d2, .int .i64 (f x).2]) ∧ Below B w' w'' ∧ OwnR 39 3 B w'' (.slice a2 m2 d2) (css ++ [[.int .i64 (f x).1.1, .int .i64 (f x).1.2.1, .string (f x).1.2.2]]) := by
  obtain ⟨hcf, hN⟩ := hv
  have hEx' := hx
  obtain ⟨ea, en, ec, rfl, -⟩ := hEx'
  simp only [exC] at *
  have HX := hN x Q [.int .i64 x.1.1, .int .i64 x.1.2.1, .int .i64 x.1.2.2.1, .string x.1.2.2.2.1, .string x.1.2.2.2.2.1, .string x.1.2.2.2.2.2, .slice ea en ec] (w'.alloc (.cells #[.int .i64 x.1.1, .int .i64 x.1.2.1, .int .i64 x.1.2.2.1, .string x.1.2.2.2.1, .string x.1.2.2.2.2.1, .string x.1.2.2.2.2.2, .slice ea en ec] 42)) hP (bal (Below.refl _ _) _) (eG.keep (fun b _ hl => (bal (Below.refl _ _) _).block b hl) hx)
  have bx := Bk.new w' (.cells #[.int .i64 x.1.1, .int .i64 x.1.2.1, .int .i64 x.1.2.2.1, .string x.1.2.2.2.1, .string x.1.2.2.2.2.1, .string x.1.2.2.2.2.2, .slice ea en ec] 42)
  have ho1 := ho.alloc (.cells #[.int .i64 x.1.1, .int .i64 x.1.2.1, .int .i64 x.1.2.2.1, .string x.1.2.2.2.1, .string x.1.2.2.2.2.1, .string x.1.2.2.2.2.2, .slice ea en ec] 42)
  have hb1 := Below.alloc (Below.refl B w') hB (.cells #[.int .i64 x.1.1, .int .i64 x.1.2.1, .int .i64 x.1.2.2.1, .string x.1.2.2.2.1, .string x.1.2.2.2.2.1, .string x.1.2.2.2.2.2, .slice ea en ec] 42)
  have hB1 : B ≤ (w'.alloc (.cells #[.int .i64 x.1.1, .int .i64 x.1.2.1, .int .i64 x.1.2.2.1, .string x.1.2.2.2.1, .string x.1.2.2.2.2.1, .string x.1.2.2.2.2.2, .slice ea en ec] 42)).heap.size := Nat.le_trans hB hb1.size
  have hf1 := cell_later (bal (Below.refl _ _) (.cells #[.int .i64 x.1.1, .int .i64 x.1.2.1, .int .i64 x.1.2.2.1, .string x.1.2.2.2.1, .string x.1.2.2.2.2.1, .string x.1.2.2.2.2.2, .slice ea en ec] 42)) hf
  clear ho hN hx hf hP
  generalize f x = R at *
  replace HX : Hid _ := hid HX
  go_enter Tryz.func96, Tryz.ntmps96
  go_upto_region 1 with fail
  generalize w'.alloc (.cells #[.int .i64 x.1.1, .int .i64 x.1.2.1, .int .i64 x.1.2.2.1, .string x.1.2.2.2.1, .string x.1.2.2.2.2.1, .string x.1.2.2.2.2.2, .slice ea en ec] 42) = W at *
  have d0 := bx.cell 0
  have d1 := bx.cell 1
  have d2 := bx.cell 2
  have d3 := bx.cell 3
  have d4 := bx.cell 4
  have d5 := bx.cell 5
  have d6 := bx.cell 6
  simp only [List.getElem?_toArray, List.getElem?_cons_zero, List.getElem?_cons_succ] at d0 d1 d2 d3 d4 d5 d6
  clear bx
  go_wp2_with fail
  refine Calls.mono HX.out ?_
  rintro e w4 ⟨rfl, hb4⟩
  have ho4 := (ho1.later hb4).alloc (.cells #[.int .i64 R.1.1, .int .i64 R.1.2.1, .string R.1.2.2] 39)
  have hB4 := hb1.trans (hb4.mono hB1)
  have hB4' : B ≤ w4.heap.size := Nat.le_trans hB hB4.size
  have hB5 := hB4.alloc hB4' (.cells #[.int .i64 R.1.1, .int .i64 R.1.2.1, .string R.1.2.2] 39)
  have hB5' : B ≤ (w4.alloc (.cells #[.int .i64 R.1.1, .int .i64 R.1.2.1, .string R.1.2.2] 39)).heap.size := Nat.le_trans hB hB5.size
  have by0 := Bk.new w4 (.cells #[.int .i64 R.1.1, .int .i64 R.1.2.1, .string R.1.2.2] 39)
  clear HX hf1 ho1 hb1 hb4 hB4 hcf d0 d1 d2 d3 d4 d5 d6
  go_upto_region 2 with fail
  generalize w4.alloc (.cells #[.int .i64 R.1.1, .int .i64 R.1.2.1, .string R.1.2.2] 39) = W5 at *
  have y0 := by0.cell 0
  have y1 := by0.cell 1
  have y2 := by0.cell 2
  simp only [List.getElem?_toArray, List.getElem?_cons_zero, List.getElem?_cons_succ] at y0 y1 y2
  have ho5 := ho4.alloc (.cells #[.int .i64 R.1.1, .int .i64 R.1.2.1, .string R.1.2.2] 39)
  have hB6 := hB5.alloc hB5' (.cells #[.int .i64 R.1.1, .int .i64 R.1.2.1, .string R.1.2.2] 39)
  have hB6' : B ≤ (W5.alloc (.cells #[.int .i64 R.1.1, .int .i64 R.1.2.1, .string R.1.2.2] 39)).heap.size := Nat.le_trans hB hB6.size
  have hblk := ho4.blk
  clear by0 ho4
  go_wp2_with (first | (at_builtin; go_must (refine wpList_appR Tryz.underlying48 Tryz.infoTVal rfl (by decide) (by decide) rfl (.tmp 15) (.tmp 17) rfl _ css W5.heap.size [.int .i64 R.1.1, .int .i64 R.1.2.1, .string R.1.2.2] rfl rfl ho5 rfl (by simp [Value.oneCell']) (new3 W5 _ _ _ _) (by omega) hB6' ?_)) | fail)
  intro v' w6 hO6 hg6 hown
  have hB7 := below_grows hB6 hB6' hg6 fun k e => (hblk k e).1
  obtain ⟨a2, m2, d2, rfl⟩ := hO6.sl
  clear hg6 hown ho5 hB5 hB6 hblk
  go_wp2
  exact bodyPost_ret (v := .tuple #[.slice a2 m2 d2, .int .i64 R.2]) (by simp [results, Tryz.results96]) rfl ⟨a2, m2, d2, rfl, hB7, hO6⟩

set_option maxRecDepth 100000 in
set_option maxHeartbeats 4000000 in
theorem eachE_any {l : List (Pg × Tg)} (hlen : l.length ≤ 2) {f : Pg × Tg → Vt × Int} {P : Pg × Tg → Prop} {Q : Nat → Prop} {w : World} {ao : Option Addr} {n c : Nat} (h : RowIs eG Q w (.slice ao n c) l) {N : Nat} {r : Value} (hv : EvF f P w N r) (hP : ∀ x ∈ l, P x) :
    Calls Tryz.prog 82 #[.slice ao n c, .func (.func N) #[r] #[]] w fun en w' => ∃ a m d, en = .returned (.tuple #[.slice a m d, .int .i64 (erL (l.map fun x => (f x).2))]) ∧ Below w.heap.size w w' ∧ (erL (l.map fun x => (f x).2) = 0 → RowIs eVal (fun _ => True) w' (.slice a m d) (l.map fun x => (f x).1)) := by
  have hw := bal (Below.refl w.heap.size w) (.cells #[.func (.func N) #[r] #[]] 117)
  have hf := cell_new w #[.func (.func N) #[r] #[]] 117 (0, 0) 0
  simp only [List.getElem?_toArray, List.getElem?_cons_zero] at hf
  generalize hW : w.alloc (.cells #[.func (.func N) #[r] #[]] 117) = W at hw hf
  obtain ⟨hn, hnc, hc⟩ := row_lens h
  have hcf : ∀ args w', (callFunc 96 args).run Tryz.prog w' = .ok (.enter 96 args) w' := fun args w' => by rfl
  have HE : erO (fun i => ((l.map fun x => (f x).2)[i]?).getD 0) l.length = erL (l.map fun x => (f x).2) := by
    have := erO_list (l := l.map fun x => (f x).2) (er := fun i => ((l.map fun x => (f x).2)[i]?).getD 0) fun i hi => by rw [List.getElem?_eq_getElem hi]; rfl
    rwa [List.length_map] at this
  have HC : Hid (∀ Wc, OwnR 39 3 W.heap.size Wc (.slice (some ⟨W.heap.size, 0, none⟩) 0 n) [] → Below W.heap.size W Wc → _) := hid fun Wc ho hb2 => by
    have hf2 := cell_later hb2 hf
    have hlW : w.heap.size < W.heap.size := by rw [← hW, World.size_alloc]; omega
    have hr1 : RowIs eG (fun b => b < W.heap.size) Wc (.slice ao n c) l := ((h.mono (by decide) fun b _ hl => hl).keep (by decide) fun b hq _ => (Below.on hw hb2).block b hq).mono (by decide) fun b hq _ => Nat.lt_of_lt_of_le hq hw.size
    have := foldVExsl (B := W.heap.size) (Nat.le_trans hlen (by decide)) hb2.size (fun b hq => hq) hr1 (caps := #[.pointer (some ⟨w.heap.size, 0, none⟩)]) hcf (fun i => ((l.map fun x => (f x).2)[i]?).getD 0) (fun i w' a m d => Below W.heap.size Wc w' ∧ OwnR 39 3 W.heap.size w' (.slice a m d) ((l.take i).map fun x => [.int .i64 (f x).1.1, .int .i64 (f x).1.2.1, .string (f x).1.2.2]))
      (fun i w' a m d hI => hI.1) (fun i w' a m d o hI => ⟨hI.1.alloc (Nat.le_trans hb2.size hI.1.size) o, hI.2.alloc o⟩) (a0 := some ⟨W.heap.size, 0, none⟩) (m0 := 0) (d0 := n) ⟨Below.refl _ _, ho⟩
      (fun i hi w' a m d cs hI hx => by
        refine Calls.mono (eachE1_any (hv.lat hw hb2 hI.1) (Nat.le_trans hb2.size hI.1.size) ((hI.1.cell hlW).trans hf2) (hP _ (List.getElem_mem hi)) hI.2 (by rw [List.length_map, List.length_take]; omega) hx) ?_
        rintro en w'' ⟨a2, m2, d2, rfl, hb3, ho2⟩
        refine ⟨a2, m2, d2, ?_, hI.1.trans hb3, fun _ => ⟨hI.1.trans hb3, ?_⟩⟩
        · rw [List.getElem?_eq_getElem (by simpa using hi), List.getElem_map]; rfl
        · rw [List.take_succ_eq_append_getElem hi, List.map_append]; exact ho2)
    rw [HE] at this
    exact this
  clear HE hcf h hf
  generalize erL (l.map fun x => (f x).2) = E at *
  obtain ⟨ti, ht1, ht2, ht3, ht4⟩ := info_parts Tryz.infoTVal
  have hW2 : w.heap.size + 1 = W.heap.size := by rw [← hW, World.size_alloc]
  go_enter Tryz.func82, Tryz.ntmps82
  go_upto_region 1 with fail
  go_wp2_with (first | (at_make; go_must (refine wpList_make_own W rfl _ _ 48 rfl W.heap.size 39 ti _ 3 Tryz.underlying48 ht1 ht2 ht3 .i64 .i64 (n : Int) n rfl rfl rfl (by rw [ht4]; omega) (by rw [← hn]; exact Nat.le_trans hlen (by decide)) (Nat.le_refl _) ?_)) | fail)
  intro Wc ho hg
  have hb2 : Below W.heap.size W Wc := below_grows (Below.refl _ _) (Nat.le_refl _) hg (by simp)
  have HC2 : Hid _ := hid (HC.out Wc ⟨fun cs h => by simp at h, ho⟩ hb2)
  clear HC ho hg
  go_wp2_with fail
  refine Calls.mono HC2.out ?_
  rintro e w4 ⟨a, m, d, rfl, hb4, hI, -⟩
  have HI : Hid _ := hid hI
  have hB4 : Below w.heap.size w w4 := (Below.on hw hb2).trans (hb4.mono hw.size)
  clear HC2 hI hb4
  go_wp2
  refine bodyPost_ret (v := .tuple #[.slice a m d, .int .i64 E]) (by simp [results, Tryz.results82]) rfl ⟨a, m, d, rfl, hB4, fun h0 => ?_⟩
  obtain ⟨hB, ho⟩ := HI.out h0
  rw [List.take_length] at ho
  exact OwnR.rowE (e := eVal) ho (by simp) (fun _ _ _ => trivial) fun i h1 h2 => by
    show _ = _
    simp

set_option maxRecDepth 100000 in
set_option maxHeartbeats 4000000 in
theorem upTo1_any {f : Pg × Tg → Vt × Int} {P : Pg × Tg → Prop} {be bs : Nat} {sa sb : Value} {w' : World} (hv : EvF f P w' 54 (.agg #[sa, sb])) (z last : Int) (hz : w'.cell? ⟨be, 0, none⟩ = some (.int .i64 z)) (hs0 : w'.cell? ⟨bs, 0, none⟩ = some sa) (hs1 : w'.cell? ⟨bs, 1, none⟩ = some sb) (hsl : ∃ a n c a2 n2 c2, sa = .slice a n c ∧ sb = .slice a2 n2 c2) {Q : Nat → Prop} {x : Pg × Tg} (hP : P x) {cs : List Value} (hx : eG.E Q w' x cs) :
    Calls Tryz.prog 92 #[.int .i64 last, .agg cs.toArray, .pointer (some ⟨be, 0, none⟩), .pointer (some ⟨bs, 0, none⟩)] w' fun en w'' => en = .returned (.tuple #[.int .i64 (if last = z then z else (boP (f x)).1), .int .i64 (if last = z then 0 else (boP (f x)).2)]) ∧ Below w'.heap.size w' w'' := by
  obtain ⟨hcf, hN⟩ := hv
  obtain ⟨a, n, c, a2, n2, c2, rfl, rfl⟩ := hsl
  have hEx' := hx
  obtain ⟨ea, en, ec, rfl, -⟩ := hEx'
  simp only [exC] at *
  have HX := hN x Q [.int .i64 x.1.1, .int .i64 x.1.2.1, .int .i64 x.1.2.2.1, .string x.1.2.2.2.1, .string x.1.2.2.2.2.1, .string x.1.2.2.2.2.2, .slice ea en ec] (w'.alloc (.cells #[.int .i64 x.1.1, .int .i64 x.1.2.1, .int .i64 x.1.2.2.1, .string x.1.2.2.2.1, .string x.1.2.2.2.2.1, .string x.1.2.2.2.2.2, .slice ea en ec] 42)) hP (bal (Below.refl _ _) _) (eG.keep (fun b _ hl => (bal (Below.refl _ _) _).block b hl) hx)
  have bx := Bk.new w' (.cells #[.int .i64 x.1.1, .int .i64 x.1.2.1, .int .i64 x.1.2.2.1, .string x.1.2.2.2.1, .string x.1.2.2.2.2.1, .string x.1.2.2.2.2.2, .slice ea en ec] 42)
  have hb1 := bal (Below.refl w'.heap.size w') (.cells #[.int .i64 x.1.1, .int .i64 x.1.2.1, .int .i64 x.1.2.2.1, .string x.1.2.2.2.1, .string x.1.2.2.2.2.1, .string x.1.2.2.2.2.2, .slice ea en ec] 42)
  replace hz := cell_later hb1 hz
  replace hs0 := cell_later hb1 hs0
  replace hs1 := cell_later hb1 hs1
  clear hN hx hP
  generalize f x = R at *
  replace HX : Hid _ := hid HX
  by_cases hl : last = z
  · subst hl
    rw [if_pos rfl, if_pos rfl]
    clear HX hcf
    go_enter Tryz.func92, Tryz.ntmps92
    go_upto_region 1 with fail
    generalize w'.alloc (.cells #[.int .i64 x.1.1, .int .i64 x.1.2.1, .int .i64 x.1.2.2.1, .string x.1.2.2.2.1, .string x.1.2.2.2.2.1, .string x.1.2.2.2.2.2, .slice ea en ec] 42) = W at *
    clear bx
    go_wp2
    exact bodyPost_ret (v := .tuple #[.int .i64 last, .int .i64 0]) (by simp [results, Tryz.results92]) rfl ⟨rfl, hb1⟩
  · rw [if_neg hl, if_neg hl]
    have hd : decide (last = z) = false := by simpa using hl
    have HB1 : Hid (R.2 ≠ 0 → boP R = (0, R.2)) := hid fun h => by unfold boP; rw [if_pos h]
    have HB0 : Hid (R.2 = 0 → boP R = knP R.1 3) := hid fun h => by unfold boP; rw [if_neg (by simpa using h)]
    obtain ⟨BR, hBR⟩ : ∃ BR, boP R = BR := ⟨_, rfl⟩
    rw [hBR] at HB1 HB0 ⊢
    clear hBR
    have HI : Hid _ := hid (intOfV_any R.1 3)
    generalize knP R.1 3 = KR at *
    go_enter Tryz.func92, Tryz.ntmps92
    go_upto_region 1 with fail
    generalize w'.alloc (.cells #[.int .i64 x.1.1, .int .i64 x.1.2.1, .int .i64 x.1.2.2.1, .string x.1.2.2.2.1, .string x.1.2.2.2.2.1, .string x.1.2.2.2.2.2, .slice ea en ec] 42) = W at *
    have d0 := bx.cell 0
    have d1 := bx.cell 1
    have d2 := bx.cell 2
    have d3 := bx.cell 3
    have d4 := bx.cell 4
    have d5 := bx.cell 5
    have d6 := bx.cell 6
    simp only [List.getElem?_toArray, List.getElem?_cons_zero, List.getElem?_cons_succ] at d0 d1 d2 d3 d4 d5 d6
    clear bx
    go_wp2_with fail
    refine Calls.mono HX.out ?_
    rintro e w4 ⟨rfl, hb4⟩
    have hB4 := Below.on hb1 hb4
    have hB5 := bal hB4 (.cells #[.int .i64 R.1.1, .int .i64 R.1.2.1, .string R.1.2.2] 39)
    have by0 := Bk.new w4 (.cells #[.int .i64 R.1.1, .int .i64 R.1.2.1, .string R.1.2.2] 39)
    clear HX hcf d0 d1 d2 d3 d4 d5 d6 hb1 hb4 hB4 hz hs0 hs1
    go_upto_region 4 with fail
    generalize w4.alloc (.cells #[.int .i64 R.1.1, .int .i64 R.1.2.1, .string R.1.2.2] 39) = W5 at *
    have y0 := by0.cell 0
    have y1 := by0.cell 1
    have y2 := by0.cell 2
    simp only [List.getElem?_toArray, List.getElem?_cons_zero, List.getElem?_cons_succ] at y0 y1 y2
    clear by0
    obtain ⟨R1, R2⟩ := R
    dsimp only at *
    by_cases h0 : R2 = 0
    · obtain rfl := HB0.out h0
      subst h0
      clear HB0 HB1
      go_wp2_with fail
      refine Calls.mono (HI.out _) ?_
      rintro e w6 ⟨rfl, hb6⟩
      have hB6 := Below.on hB5 hb6
      clear HI hB5 hb6
      go_wp2
      exact bodyPost_ret (v := .tuple #[.int .i64 BR.1, .int .i64 BR.2]) (by simp [results, Tryz.results92]) rfl ⟨rfl, hB6⟩
    · obtain rfl := HB1.out h0
      have h0' : (R2 != 0) = true := by simpa using h0
      have h0d : decide (R2 = 0) = false := by simpa using h0
      clear HB0 HB1 HI
      go_wp2
      exact bodyPost_ret (v := .tuple #[.int .i64 0, .int .i64 R2]) (by simp [results, Tryz.results92]) rfl ⟨rfl, hB5⟩

end Go.Proofs.YtnlaaejdianfjabGreat
namespace Go.Proofs.YtnlaaejdianfjabGreat
open Go.RowKit
set_option linter.unusedVariables false
set_option linter.unusedSimpArgs false

theorem up_plain {z e0 e1 l1 b1 a2 E : Int} {r0 r1 : Vt × Int} (h0 : boP r0 = (l1, e0)) (h1 : boP r1 = (b1, e1)) (hE : E = erL [e0, if l1 = z then 0 else e1]) (hk : E = 0 → a2 = if l1 = z then z else b1) (hn : E ≠ 0 → a2 = 0) : (trV (decide (a2 = 1)), E) = upP z r0 r1 := by
  unfold upP
  rw [h0, h1]
  by_cases k0 : e0 = 0
  · subst k0
    rw [if_neg (by simp)]
    simp only [erL, if_true] at hE
    by_cases k1 : l1 = z
    · rw [if_pos k1] at hE hk ⊢
      simp only [if_true] at hE
      subst hE
      rw [hk rfl]
    · rw [if_neg k1] at hE hk ⊢
      by_cases k2 : e1 = 0
      · rw [if_pos k2] at hE
        subst hE
        rw [if_neg (by simpa using k2), hk rfl]
      · rw [if_neg k2] at hE
        rw [if_pos (by simpa using k2)]
        subst hE
        rw [hn k2]
        rfl
  · rw [if_pos (by simpa using k0)]
    simp only [erL] at hE
    rw [if_neg k0] at hE
    subst hE
    rw [hn k0]
    rfl
set_option maxRecDepth 100000 in
set_option maxHeartbeats 4000000 in
theorem upTo_any {f : Pg × Tg → Vt × Int} {P : Pg × Tg → Prop} (z : Int) (hz01 : z = 0 ∨ z = 1) {a : Option Addr} {n c : Nat} {a2 : Option Addr} {n2 c2 : Nat} {w : World} (hv : EvF f P w 54 (.agg #[.slice a n c, .slice a2 n2 c2])) {Q : Nat → Prop} {x y : Pg × Tg} (hx : P x) (hy : P y) {ao : Option Addr} {m d : Nat} (h : RowIs eG Q w (.slice ao m d) [x, y]) :
    Calls Tryz.prog 81 #[.agg #[.slice a n c, .slice a2 n2 c2], .int .i64 z, .slice ao m d] w fun en w' => en = .returned (.tuple #[vV (upP z (f x) (f y)).1, .int .i64 (upP z (f x) (f y)).2]) ∧ Below w.heap.size w w' := by
  have hw := bal (bal (bal (Below.refl w.heap.size w) (.cells #[.slice a n c, .slice a2 n2 c2] 113)) (.cells #[.int .i64 z] 2)) zV
  have bS : Bk (((w.alloc (.cells #[.slice a n c, .slice a2 n2 c2] 113)).alloc (.cells #[.int .i64 z] 2)).alloc zV) w.heap.size (.cells #[.slice a n c, .slice a2 n2 c2] 113) := ((Bk.new w _).later (bal (Below.refl _ _) _)).later (bal (Below.refl _ _) _)
  have bZ : Bk (((w.alloc (.cells #[.slice a n c, .slice a2 n2 c2] 113)).alloc (.cells #[.int .i64 z] 2)).alloc zV) (w.heap.size + 1) (.cells #[.int .i64 z] 2) := by
    have := (Bk.new (w.alloc (.cells #[.slice a n c, .slice a2 n2 c2] 113)) (.cells #[.int .i64 z] 2)).later (bal (Below.refl _ _) zV)
    rwa [World.size_alloc] at this
  have hz : Bv (((w.alloc (.cells #[.slice a n c, .slice a2 n2 c2] 113)).alloc (.cells #[.int .i64 z] 2)).alloc zV) (w.heap.size + 2) 0 0 ⟨#[]⟩ := by
    have := Bv.new ((w.alloc (.cells #[.slice a n c, .slice a2 n2 c2] 113)).alloc (.cells #[.int .i64 z] 2))
    rwa [World.size_alloc, World.size_alloc] at this
  generalize hW : ((w.alloc (.cells #[.slice a n c, .slice a2 n2 c2] 113)).alloc (.cells #[.int .i64 z] 2)).alloc zV = W at hw bS bZ hz
  have s0 := bS.cell 0
  have s1 := bS.cell 1
  have z0 := bZ.cell 0
  simp only [List.getElem?_toArray, List.getElem?_cons_zero, List.getElem?_cons_succ] at s0 s1 z0
  have hv1 := hv.later hw
  obtain ⟨l1, e0, hr0⟩ : ∃ l1 e0, boP (f x) = (l1, e0) := ⟨_, _, rfl⟩
  obtain ⟨b1, e1, hr1⟩ : ∃ b1 e1, boP (f y) = (b1, e1) := ⟨_, _, rfl⟩
  have hne : ¬ 1 - z = z := by omega
  have hcf : ∀ args w', (callFunc 92 args).run Tryz.prog w' = .ok (.enter 92 args) w' := fun args w' => by rfl
  have hr : RowIs eG (fun b => b < W.heap.size) W (.slice ao m d) [x, y] := (h.keep (by decide) fun b _ hl => hw.block b hl).mono (by decide) fun b _ hl => hl
  have HF : Hid (Calls Tryz.prog 91 #[.slice ao m d, .int .i64 (1 - z), .func (.func 92) #[] #[.pointer (some ⟨w.heap.size + 1, 0, none⟩), .pointer (some ⟨w.heap.size, 0, none⟩)]] W fun en w' => ∃ k E : Int, en = .returned (.tuple #[.int .i64 k, .int .i64 E]) ∧ Below W.heap.size W w' ∧ (trV (decide (k = 1)), E) = upP z (f x) (f y)) := hid (by
    have := foldVExin (l := [x, y]) (B := W.heap.size) (by simp) (Nat.le_refl _) (fun b hq => hq) hr (caps := #[.pointer (some ⟨w.heap.size + 1, 0, none⟩), .pointer (some ⟨w.heap.size, 0, none⟩)]) hcf (fun i => if i = 0 then e0 else if l1 = z then 0 else e1) (fun i w' k => Below W.heap.size W w' ∧ k = if i = 0 then 1 - z else if i = 1 then l1 else if l1 = z then z else b1)
      (fun i w' k hI => hI.1) (fun i w' k o hI => ⟨bal hI.1 o, hI.2⟩) (a0 := 1 - z) ⟨Below.refl _ _, rfl⟩
      (fun i hi w' k cs hI hE => by
        have hi' : i < 2 := hi
        have g := fun (u : Pg × Tg) (hu : P u) (hE : eG.E (fun b => b < W.heap.size) w' u cs) => upTo1_any (hv1.later hI.1) z k (cell_later hI.1 z0) (cell_later hI.1 s0) (cell_later hI.1 s1) ⟨_, _, _, _, _, _, rfl, rfl⟩ hu hE
        rcases (show i = 0 ∨ i = 1 by omega) with rfl | rfl
        · obtain rfl : k = 1 - z := hI.2
          refine Calls.mono (g x hx hE) ?_
          rintro en w3 ⟨rfl, hb3⟩
          rw [if_neg hne, if_neg hne, hr0]
          exact ⟨l1, rfl, Below.on hI.1 hb3, fun _ => ⟨Below.on hI.1 hb3, rfl⟩⟩
        · obtain rfl : k = l1 := hI.2
          refine Calls.mono (g y hy hE) ?_
          rintro en w3 ⟨rfl, hb3⟩
          rw [hr1]
          exact ⟨if k = z then z else b1, rfl, Below.on hI.1 hb3, fun _ => ⟨Below.on hI.1 hb3, rfl⟩⟩)
    refine Calls.mono this ?_
    rintro en w3 ⟨k, rfl, hb3, g1, g2⟩
    have eE : erO (fun i => if i = 0 then e0 else if l1 = z then 0 else e1) [x, y].length = erL [e0, if l1 = z then 0 else e1] := rfl
    rw [eE] at g1 g2 ⊢
    exact ⟨k, _, rfl, hb3, up_plain hr0 hr1 rfl (fun h => (g1 h).2) g2⟩)
  obtain ⟨hm, hmd, hdm⟩ := row_lens h
  clear hv hv1 hr h hcf bS bZ s0 s1 hr0 hr1 hne hx hy
  obtain ⟨U, hU⟩ : ∃ U, upP z (f x) (f y) = U := ⟨_, rfl⟩
  rw [hU] at HF ⊢
  clear hU
  rcases hz01 with rfl | rfl
  all_goals
    go_enter Tryz.func81, Tryz.ntmps81
    go_wp2_with fail
    refine Calls.mono HF.out ?_
    rintro e w4 ⟨k, E, rfl, hb4, hUe⟩
    have HT : Hid _ := hid (truthE_any (decide (k = 1)))
    obtain ⟨D, hD⟩ : ∃ D, decide (k = 1) = D := ⟨_, rfl⟩
    have hD2 : (k == 1) = D := by rw [← hD]; rfl
    have HU : Hid ((trV D, E) = U) := hid (hD ▸ hUe)
    rw [hD] at HT
    clear hUe
    have hB4 := Below.on hw hb4
    have hz4 := hz.later hb4
    clear HF hz hb4 hw hW z0
    go_wp2_with fail
    refine Calls.mono (HT.out _) ?_
    rintro e w5 ⟨rfl, hb5⟩
    have hB5 := Below.on hB4 hb5
    have hz5 := hz4.later hb5
    obtain ⟨c0, c1, c2⟩ := hz5.cells
    obtain ⟨f0, f1, f2⟩ := hz5.free
    have hl := hz5.lt
    clear HT hz4 hz5 hB4 hb5 hD hD2
    go_wp2
    exact bodyPost_ret (v := .tuple #[vV (trV D), .int .i64 E]) (by simp [results, Tryz.results81, go_sem, c0, c1, c2]) rfl ⟨by rw [← HU.out], below3 hB5 (by omega) _ _ _⟩

end Go.Proofs.YtnlaaejdianfjabGreat
