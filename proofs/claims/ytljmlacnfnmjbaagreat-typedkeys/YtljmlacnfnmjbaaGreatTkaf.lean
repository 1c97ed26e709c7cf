import Derived.Test.YtljmlacnfnmjbaaGreatTkac
import Derived.Test.YtljmlacnfnmjbaaGreatTkae
namespace Go.Proofs.YtljmlacnfnmjbaaGreat
open Go.RowKit
set_option linter.unusedVariables false
set_option linter.unusedSimpArgs false

theorem empty_str (t : ByteArray) : t.toList.isEmpty = decide (t = ⟨#[]⟩) := by
  have h := same_str t ⟨#[]⟩
  rw [← h, ByteArray.toList_eq, ByteArray.toList_eq]
  cases t.data.toList <;> rfl
theorem ne_str {s t : ByteArray} (h : s ≠ t) : (s.toList == t.toList) = false := by rw [same_str]; simpa using h
theorem row_int {Q : Nat → Prop} {w : World} {ao : Option Addr} {n c : Nat} {l : List Int} (h : RowIs eInt Q w (.slice ao n c) l) : l.length = n ∧ n ≤ c ∧ c ≤ 9223372036854775807 ∧ (0 < n → ∃ b o, ao = some ⟨b, o, none⟩ ∧ Q b ∧ ∀ i (hi : i < l.length), w.cell? ⟨b, o + i, none⟩ = some (.int .i64 l[i])) := by
  obtain ⟨_, _, _, e, h1, h2, h3, h4⟩ := h
  cases e
  refine ⟨h1, h2, h3, fun hn => ?_⟩
  obtain ⟨b, o, e, hq, hi⟩ := h4 hn
  refine ⟨b, o, e, hq, fun i hi' => ?_⟩
  obtain ⟨cs, hE, hl, hc⟩ := hi i hi'
  have hE' : cs = [.int .i64 l[i]] := hE
  subst hE'
  have := hc 0 (show 0 < 1 from by decide)
  simpa [eInt] using this

set_option maxRecDepth 100000 in
set_option maxHeartbeats 2000000 in
theorem indexI_any {l : List Int} (hlen : l.length ≤ 500) (x : Int) {Q : Nat → Prop} {w : World} {ao : Option Addr} {n c : Nat} (h : RowIs eInt Q w (.slice ao n c) l) :
    Calls Tryz.prog 106 #[.slice ao n c, .int .i64 x] w fun en w' => en = .returned (.int .i64 (fidx (fun y => x == y) l)) ∧ Below w.heap.size w w' := by
  obtain ⟨hn, hnc, hc, hx⟩ := row_int h
  subst hn
  clear h
  obtain ⟨R, hR⟩ : ∃ R, fidx (fun y => x == y) l = R := ⟨_, rfl⟩
  have HF : Hid _ := hid hR
  rw [hR]
  clear hR
  have HXX : Hid _ := hid hx
  clear hx
  go_enter Tryz.func106, Tryz.ntmps106
  go_wp2
  go_loopw [5, 8] (fun _ v8 wr => ∃ k : Nat, k ≤ l.length ∧ v8 = .int .i64 k ∧ Below w.heap.size w wr ∧ Hid (∀ i (hi : i < l.length), i < k → (x == l[i]) = false)) (fun _ i _ => l.length - (intOf i).toNat)
  case atStart => exact ⟨0, Nat.zero_le _, rfl, Below.refl _ _, hid fun i h hi => absurd hi (by omega)⟩
  case round =>
    obtain ⟨k, hk, rfl, hB, HE⟩ := hrel
    by_cases hlt : k < l.length
    · obtain ⟨b, o, rfl, -, hi⟩ := HXX.out (by omega)
      obtain ⟨y, hy⟩ : ∃ y, l[k] = y := ⟨_, rfl⟩
      have c0 := cell_later hB (hi k hlt)
      rw [hy] at c0
      have hkm : (k : Int) < (l.length : Int) := by omega
      have hk5 : k ≤ 500 := by omega
      have HY : Hid _ := hid hy
      clear hi hy
      cases hp : (x == y) with
      | true =>
        have HP : Hid (fidx (fun y => x == y) l = k) := hid (fidx_hit hlt HE.out (by rw [HY.out]; exact hp))
        obtain rfl : x = y := by simpa using hp
        clear hp
        go_wp2
        go_ret
        exact ⟨ret_int (by rw [← HF.out, HP.out]), hB⟩
      | false =>
        have HN2 : Hid (∀ i (hi : i < l.length), i < k + 1 → (x == l[i]) = false) := hid fun i hi hik => by
          by_cases he : i < k
          · exact HE.out i hi he
          · obtain rfl : i = k := by omega
            rw [HY.out]; exact hp
        have hpd : decide (x = y) = false := by simpa using hp
        clear HE
        go_wp2
        go_roundw
        case rel => exact ⟨k + 1, hlt, by go_num, hB, HN2⟩
        case measure => simp only [intOf]; omega
    · obtain rfl : k = l.length := by omega
      have HP : Hid (fidx (fun y => x == y) l = -1) := hid (fidx_none fun i hi => HE.out i hi hi)
      clear HE
      go_wp2
      go_ret
      exact ⟨ret_int (by rw [← HF.out, HP.out]), hB⟩
set_option maxRecDepth 100000 in
set_option maxHeartbeats 2000000 in
theorem containsI_any {l : List Int} (hlen : l.length ≤ 500) (x : Int) {Q : Nat → Prop} {w : World} {ao : Option Addr} {n c : Nat} (h : RowIs eInt Q w (.slice ao n c) l) :
    Calls Tryz.prog 85 #[.slice ao n c, .int .i64 x] w fun en w' => en = .returned (.bool (l.contains x)) ∧ Below w.heap.size w w' := by
  have HC : Hid _ := hid (indexI_any hlen x h)
  have he : decide (0 ≤ fidx (fun y => x == y) l) = l.contains x := by
    rw [fidx_any, List.contains_eq_any_beq]
  clear h
  generalize fidx (fun y => x == y) l = R at *
  have HE : Hid _ := hid he
  clear he
  go_enter Tryz.func85, Tryz.ntmps85
  go_wp2_with fail
  refine Calls.mono HC.out ?_
  rintro e w4 ⟨rfl, hb4⟩
  go_wp2
  go_ret
  exact ⟨ret_bool HE.out, hb4⟩

set_option maxRecDepth 100000 in
set_option maxHeartbeats 2000000 in
theorem alike1_any {l : List Int} (hl : 0 < l.length) (x : Int) {Q : Nat → Prop} {w : World} {ao : Option Addr} {n c bf : Nat} (h : RowIs eInt Q w (.slice ao n c) l) (hf : w.cell? ⟨bf, 0, none⟩ = some (.slice ao n c)) :
    Calls Tryz.prog 104 #[.int .i64 x, .pointer (some ⟨bf, 0, none⟩)] w fun en w' => en = .returned (.bool (x == l.headD 0)) ∧ Below w.heap.size w w' := by
  obtain ⟨hn, hnc, hc, hx⟩ := row_int h
  subst hn
  obtain ⟨b, o, rfl, -, hi⟩ := hx hl
  have c0 := hi 0 hl
  have e0 : l[0] = l.headD 0 := by
    cases l with
    | nil => simp at hl
    | cons y r => rfl
  rw [e0, Nat.add_zero] at c0
  clear h hx hi e0
  generalize l.headD 0 = y at *
  have hl' : (0 : Int) < (l.length : Int) := by omega
  go_enter Tryz.func104, Tryz.ntmps104
  go_wp2
  go_ret
  exact ⟨ret_bool (by first | rfl | (rw [Bool.eq_iff_iff]; simp)), Below.refl _ _⟩
set_option maxRecDepth 100000 in
set_option maxHeartbeats 2000000 in
theorem alike_any {l : List Int} (hlen : l.length ≤ 500) {Q : Nat → Prop} {w : World} {ao : Option Addr} {n c : Nat} (h : RowIs eInt Q w (.slice ao n c) l) :
    Calls Tryz.prog 82 #[.slice ao n c] w fun en w' => en = .returned (.bool (alikeP l)) ∧ Below w.heap.size w w' := by
  have hw := bal (Below.refl w.heap.size w) (.cells #[.slice ao n c] 23)
  have hf := cell_new w #[.slice ao n c] 23 (0, 0) 0
  simp only [List.getElem?_toArray, List.getElem?_cons_zero] at hf
  have h1 : RowIs eInt Q (w.alloc (.cells #[.slice ao n c] 23)) (.slice ao n c) l := h.keep (by decide) fun b _ hl => hw.block b hl
  have HC := allIn hlen h1 (p := fun x => x == l.headD 0) (N := 104) (caps := #[.pointer (some ⟨w.heap.size, 0, none⟩)])
    ⟨_, _, rfl, fun args w' => by rfl, fun x w' hx hb => alike1_any (List.length_pos_of_mem hx) x (h1.keep (by decide) fun b _ hl => hb.block b hl) (cell_later hb hf)⟩
  have hT : (l.all fun x => x == l.headD 0) = alikeP l := rfl
  rw [hT] at HC
  replace HC : Hid _ := hid HC
  clear h h1 hT
  generalize alikeP l = T at *
  go_enter Tryz.func82, Tryz.ntmps82
  go_wp2_with fail
  refine Calls.mono HC.out ?_
  rintro e w4 ⟨rfl, hb4⟩
  go_wp2
  go_ret
  exact ⟨rfl, Below.on hw hb4⟩
set_option maxRecDepth 100000 in
set_option maxHeartbeats 2000000 in
theorem takes1_any {f : List Int} (hlf : f.length ≤ 500) (x : Int) {Q : Nat → Prop} {w : World} {ao : Option Addr} {n c bf : Nat} (h : RowIs eInt Q w (.slice ao n c) f) (hf : w.cell? ⟨bf, 1, none⟩ = some (.slice ao n c)) :
    Calls Tryz.prog 84 #[.int .i64 x, .pointer (some ⟨bf, 0, none⟩)] w fun en w' => en = .returned (.bool (f.contains x)) ∧ Below w.heap.size w w' := by
  have HC : Hid _ := hid (containsI_any hlf x h)
  clear h
  generalize f.contains x = T at *
  go_enter Tryz.func84, Tryz.ntmps84
  go_wp2_with fail
  refine Calls.mono HC.out ?_
  rintro e w4 ⟨rfl, hb4⟩
  go_wp2
  go_ret
  exact ⟨rfl, hb4⟩
set_option maxRecDepth 100000 in
set_option maxHeartbeats 2000000 in
theorem takes_any {l f : List Int} (hlen : l.length ≤ 500) (hlf : f.length ≤ 500) {Q : Nat → Prop} {w : World} {ao : Option Addr} {n c : Nat} (h : RowIs eInt Q w (.slice ao n c) l) (u v : Int) {ao2 : Option Addr} {n2 c2 : Nat} (h2 : RowIs eInt Q w (.slice ao2 n2 c2) f) :
    Calls Tryz.prog 54 #[.agg #[.int .i64 u, .slice ao2 n2 c2, .int .i64 v], .slice ao n c] w fun en w' => en = .returned (.bool (takesP f l)) ∧ Below w.heap.size w w' := by
  have hw := bal (Below.refl w.heap.size w) (.cells #[.int .i64 u, .slice ao2 n2 c2, .int .i64 v] 103)
  have hf := cell_new w #[.int .i64 u, .slice ao2 n2 c2, .int .i64 v] 103 (0, 0) 1
  simp only [List.getElem?_toArray, List.getElem?_cons_zero, List.getElem?_cons_succ] at hf
  have h1 : RowIs eInt Q (w.alloc (.cells #[.int .i64 u, .slice ao2 n2 c2, .int .i64 v] 103)) (.slice ao n c) l := h.keep (by decide) fun b _ hl => hw.block b hl
  have h3 : RowIs eInt Q (w.alloc (.cells #[.int .i64 u, .slice ao2 n2 c2, .int .i64 v] 103)) (.slice ao2 n2 c2) f := h2.keep (by decide) fun b _ hl => hw.block b hl
  have HA : Hid _ := hid (alike_any hlen h1)
  have HC : Hid (∀ w', Below (w.alloc (.cells #[.int .i64 u, .slice ao2 n2 c2, .int .i64 v] 103)).heap.size (w.alloc (.cells #[.int .i64 u, .slice ao2 n2 c2, .int .i64 v] 103)) w' → _) := hid fun w' hb' => allIn hlen (h1.keep (by decide) fun b _ hl => hb'.block b hl) (p := fun x => f.contains x) (N := 84) (caps := #[.pointer (some ⟨w.heap.size, 0, none⟩)])
    ⟨_, _, rfl, fun args w' => by rfl, fun x w2 hx hb => takes1_any hlf x (h3.keep (by decide) fun b _ hl => (Below.on hb' hb).block b hl) (cell_later (Below.on hb' hb) hf)⟩
  have HT : Hid (takesP f l = (alikeP l && l.all fun x => f.contains x)) := hid rfl
  generalize takesP f l = T at *
  clear h h1 h2 h3
  cases ha : alikeP l with
  | true =>
    have HT2 : Hid (T = l.all fun x => f.contains x) := hid (by rw [HT.out, ha]; rfl)
    rw [ha] at HA
    generalize (l.all fun x => f.contains x) = A at *
    clear HT ha
    go_enter Tryz.func54, Tryz.ntmps54
    go_wp2_with fail
    refine Calls.mono HA.out ?_
    rintro e w4 ⟨rfl, hb4⟩
    have HC2 : Hid _ := hid (HC.out w4 hb4)
    clear HA HC
    go_wp2_with fail
    refine Calls.mono HC2.out ?_
    rintro e w5 ⟨rfl, hb5⟩
    go_wp2
    go_ret
    exact ⟨ret_bool HT2.out.symm, Below.on hw (Below.on hb4 hb5)⟩
  | false =>
    have HT2 : Hid (T = false) := hid (by rw [HT.out, ha]; rfl)
    rw [ha] at HA
    clear HT ha HC
    go_enter Tryz.func54, Tryz.ntmps54
    go_wp2_with fail
    refine Calls.mono HA.out ?_
    rintro e w4 ⟨rfl, hb4⟩
    clear HA
    go_wp2
    go_ret
    exact ⟨ret_bool HT2.out.symm, Below.on hw hb4⟩

set_option maxRecDepth 100000 in
set_option maxHeartbeats 2000000 in
theorem column1_any (tb nm : ByteArray) (x : Cl3) {w : World} {b1 b2 : Nat} (h1 : w.cell? ⟨b1, 0, none⟩ = some (.string nm)) (h2 : w.cell? ⟨b2, 0, none⟩ = some (.string tb)) :
    Calls Tryz.prog 79 #[.agg #[.string x.1, .string x.2.1, .int .i64 x.2.2], .pointer (some ⟨b1, 0, none⟩), .pointer (some ⟨b2, 0, none⟩)] w fun en w' => en = .returned (.bool (clmIs tb nm x)) ∧ Below w.heap.size w w' := by
  obtain ⟨x1, x2, x3⟩ := x
  have hb := bal (Below.refl w.heap.size w) (.cells #[.string x1, .string x2, .int .i64 x3] 100)
  have q1 := cell_later hb h1
  have q2 := cell_later hb h2
  have d0 := cell_new w #[.string x1, .string x2, .int .i64 x3] 100 (0, 0) 0
  have d1 := cell_new w #[.string x1, .string x2, .int .i64 x3] 100 (0, 0) 1
  simp only [List.getElem?_toArray, List.getElem?_cons_zero, List.getElem?_cons_succ] at d0 d1
  have HT : Hid (clmIs tb nm (x1, x2, x3) = (decide (x2 = nm) && (decide (tb = ⟨#[]⟩) || decide (x1 = tb)))) := hid rfl
  generalize clmIs tb nm (x1, x2, x3) = T at *
  clear h1 h2
  go_enter Tryz.func79, Tryz.ntmps79
  go_upto_region 1 with fail
  generalize w.alloc (.cells #[.string x1, .string x2, .int .i64 x3] 100) = W at *
  by_cases h1 : x2 = nm
  · have HT2 : Hid (T = (decide (tb = ⟨#[]⟩) || decide (x1 = tb))) := hid (by rw [HT.out, h1]; simp)
    by_cases h2 : tb = ⟨#[]⟩
    · have HT3 : Hid (T = true) := hid (by rw [HT2.out, h2]; simp)
      have e1 : decide (x2 = nm) = true := by simpa using h1
      have e2 : decide (tb = ⟨#[]⟩) = true := by simpa using h2
      subst h1
      subst h2
      clear HT HT2
      go_wp2
      go_ret
      exact ⟨ret_bool HT3.out.symm, hb⟩
    · have HT3 : Hid (T = decide (x1 = tb)) := hid (by rw [HT2.out]; simp [h2])
      have e2 : tb.toList.isEmpty = false := by rw [empty_str]; simpa using h2
      have e3 : (x1.toList == tb.toList) = T := by rw [HT3.out, same_str]
      subst h1
      clear HT HT2
      go_wp2
      go_ret
      exact ⟨rfl, hb⟩
  · have HT3 : Hid (T = false) := hid (by rw [HT.out]; simp [h1])
    have e1 : (x2.toList == nm.toList) = false := ne_str h1
    clear HT
    go_wp2
    go_ret
    exact ⟨ret_bool HT3.out.symm, hb⟩

end Go.Proofs.YtljmlacnfnmjbaaGreat
namespace Go.Proofs.YtljmlacnfnmjbaaGreat
open Go.RowKit
set_option linter.unusedVariables false
set_option linter.unusedSimpArgs false

theorem clm_one (S : List Cl3) (tb nm : ByteArray) : ((S.filter (clmIs tb nm)).length = 1 ∧ ∃ c, S.filter (clmIs tb nm) = [c] ∧ clmK S tb nm = (c.2.2, 0)) ∨ ((S.filter (clmIs tb nm)).length ≠ 1 ∧ clmK S tb nm = (0, 10)) := by
  unfold clmK
  match S.filter (clmIs tb nm) with
  | [] => exact .inr ⟨by simp, rfl⟩
  | [c] => exact .inl ⟨rfl, c, rfl, rfl⟩
  | a :: b :: r => exact .inr ⟨by simp, rfl⟩
set_option maxRecDepth 100000 in
set_option maxHeartbeats 2000000 in
theorem columnK_any {S : List Cl3} (hlen : S.length ≤ 500) (tb nm : ByteArray) {Q : Nat → Prop} {w : World} {ao : Option Addr} {n c : Nat} (h : RowIs eClm Q w (.slice ao n c) S) :
    Calls Tryz.prog 52 #[.slice ao n c, .string tb, .string nm] w fun en w' => en = .returned (.tuple #[.int .i64 (clmK S tb nm).1, .int .i64 (clmK S tb nm).2]) ∧ Below w.heap.size w w' := by
  have hw := bal (bal (Below.refl w.heap.size w) (.cells #[.string tb] 9)) (.cells #[.string nm] 9)
  have h1 := cell_new (w.alloc (.cells #[.string tb] 9)) #[.string nm] 9 (0, 0) 0
  have h2 := cell_later (bal (Below.refl _ _) (.cells #[.string nm] 9)) (cell_new w #[.string tb] 9 (0, 0) 0)
  simp only [List.getElem?_toArray, List.getElem?_cons_zero, World.size_alloc] at h1 h2
  have HS : SuchZ eClm (clmIs tb nm) ((w.alloc (.cells #[.string tb] 9)).alloc (.cells #[.string nm] 9)) (.func (.func 79) #[] #[.pointer (some ⟨w.heap.size + 1, 0, none⟩), .pointer (some ⟨w.heap.size, 0, none⟩)]) :=
    ⟨_, _, rfl, fun args w' => by rfl, fun x Q cs w' hb hx => by
      have hx' : cs = [.string x.1, .string x.2.1, .int .i64 x.2.2] := hx
      subst hx'
      exact column1_any tb nm x (cell_later hb h1) (cell_later hb h2)⟩
  have HC : Hid _ := hid (suchCm hlen (h.keep (by decide) fun b _ hl => hw.block b hl) HS)
  have HK := clm_one S tb nm
  clear h h1 h2 HS
  generalize S.filter (clmIs tb nm) = L at *
  obtain ⟨K, hK⟩ : ∃ K, clmK S tb nm = K := ⟨_, rfl⟩
  rw [hK] at HK ⊢
  clear hK
  rcases HK with ⟨hl, x, rfl, rfl⟩ | ⟨hl, rfl⟩
  · obtain ⟨x1, x2, x3⟩ := x
    go_enter Tryz.func52, Tryz.ntmps52
    go_wp2_with fail
    refine Calls.mono HC.out ?_
    rintro e w4 ⟨a, m, d, rfl, rfl, hb4, hr⟩
    have hB4 := Below.on hw hb4
    obtain ⟨_, _, _, e', _, hmd, hd, hx⟩ := hr
    cases e'
    obtain ⟨b, o, rfl, -, hi⟩ := hx (by simp)
    obtain ⟨cs, hE, -, hc⟩ := hi 0 (by simp)
    have hE' : cs = [.string x1, .string x2, .int .i64 x3] := hE
    subst hE'
    have c2 : w4.cell? ⟨b, o + 2, none⟩ = some (.int .i64 x3) := by
      have := hc 2 (show 2 < 3 by decide)
      simpa [eClm] using this
    clear hE hc hi hx HC hb4
    simp only [List.length_cons, List.length_nil, Nat.zero_add] at *
    go_wp2
    refine bodyPost_ret (v := .tuple #[.int .i64 x3, .int .i64 0]) (by simp [results, Tryz.results52]) rfl ⟨rfl, hB4⟩
  · go_enter Tryz.func52, Tryz.ntmps52
    go_wp2_with fail
    refine Calls.mono HC.out ?_
    rintro e w4 ⟨a, m, d, rfl, hm, hb4, hr⟩
    have hm1 : (m : Int) ≠ 1 := by omega
    have hm2 : ((m : Int) != 1) = true := by simpa using hm1
    have hm3 : decide ((m : Int) = 1) = false := by simpa using hm1
    have hB4 := Below.on hw hb4
    obtain ⟨_, _, _, e', _, hmd, hd, -⟩ := hr
    cases e'
    clear HC hm hb4
    go_wp2
    refine bodyPost_ret (v := .tuple #[.int .i64 0, .int .i64 10]) (by simp [results, Tryz.results52]) rfl ⟨rfl, hB4⟩

/-- What a call that tells a way tells. -/
def TeWy (w : World) (r : Option (Int × List Int × Int)) (en : Ending) (w' : World) : Prop :=
  ∃ u ao n c v is, en = .returned (.tuple #[.agg #[.int .i64 u, .slice ao n c, .int .i64 v], .bool is]) ∧ Below w.heap.size w w' ∧ ((r = none ∧ is = false ∧ n ≤ c ∧ c ≤ 9223372036854775807) ∨ ∃ f, r = some (u, f, v) ∧ is = true ∧ f.length ≤ 2 ∧ RowIs eInt (fun _ => True) w' (.slice ao n c) f)
theorem TeWy.zero {w w' : World} (hb : Below w.heap.size w w') : TeWy w (some (0, [], 0)) (.returned (.tuple #[.agg #[.int .i64 0, .slice none 0 0, .int .i64 0], .bool true])) w' :=
  ⟨_, _, _, _, _, _, rfl, hb, .inr ⟨[], rfl, rfl, by simp, RowIs.nil _ _ _⟩⟩
theorem TeWy.none {w w' : World} (hb : Below w.heap.size w w') : TeWy w .none (.returned (.tuple #[.agg #[.int .i64 0, .slice .none 0 0, .int .i64 0], .bool false])) w' :=
  ⟨_, _, _, _, _, _, rfl, hb, .inl ⟨rfl, rfl, by omega, by omega⟩⟩
theorem TeWy.one {w w' : World} {b : Nat} {u k v : Int} (hb : Below w.heap.size w w') (hc : w'.cell? ⟨b, 0, .none⟩ = some (.int .i64 k)) : TeWy w (some (u, [k], v)) (.returned (.tuple #[.agg #[.int .i64 u, .slice (some ⟨b, 0, .none⟩) 1 1, .int .i64 v], .bool true])) w' :=
  ⟨_, _, _, _, _, _, rfl, hb, .inr ⟨[k], rfl, rfl, by simp, ⟨_, 1, 1, rfl, rfl, Nat.le_refl _, by omega, fun _ => ⟨b, 0, rfl, trivial, fun i hi => by
    have hi' : i < 1 := hi
    match i, hi' with
    | 0, _ =>
      refine ⟨_, rfl, rfl, fun j hj => ?_⟩
      have hj' : j < 1 := hj
      match j, hj' with
      | 0, _ => exact hc⟩⟩⟩⟩
theorem TeWy.two {w w' : World} {b : Nat} {u k m v : Int} (hb : Below w.heap.size w w') (hc : w'.cell? ⟨b, 0, .none⟩ = some (.int .i64 k)) (hd : w'.cell? ⟨b, 1, .none⟩ = some (.int .i64 m)) : TeWy w (some (u, [k, m], v)) (.returned (.tuple #[.agg #[.int .i64 u, .slice (some ⟨b, 0, .none⟩) 2 2, .int .i64 v], .bool true])) w' :=
  ⟨_, _, _, _, _, _, rfl, hb, .inr ⟨[k, m], rfl, rfl, by simp, ⟨_, 2, 2, rfl, rfl, Nat.le_refl _, by omega, fun _ => ⟨b, 0, rfl, trivial, fun i hi => by
    have hi' : i < 2 := hi
    match i, hi' with
    | 0, _ =>
      refine ⟨_, rfl, rfl, fun j hj => ?_⟩
      have hj' : j < 1 := hj
      match j, hj' with
      | 0, _ => exact hc
    | 1, _ =>
      refine ⟨_, rfl, rfl, fun j hj => ?_⟩
      have hj' : j < 1 := hj
      match j, hj' with
      | 0, _ => exact hd⟩⟩⟩⟩

set_option maxRecDepth 100000 in
set_option maxHeartbeats 4000000 in
theorem wayOf_any (op : Int) (w : World) : Calls Tryz.prog 51 #[.int .i64 op] w (TeWy w (wayA op)) := by
  have hw := bal (Below.refl w.heap.size w) (.cells #[.int .i64 0, .slice none 0 0, .int .i64 0] 103)
  by_cases h1 : op = 1
  · subst h1
    rw [show wayA 1 = some (0, [], 0) from rfl]
    go_enter Tryz.func51, Tryz.ntmps51
    go_wp2
    refine bodyPost_ret (v := .tuple #[.agg #[.int .i64 0, .slice none 0 0, .int .i64 0], .bool true]) (by simp [results, Tryz.results51, go_sem]) rfl (TeWy.zero ?_)
    first | exact hw | exact hw.setCell (Nat.le_refl _) _ | exact ((hw.setCell (Nat.le_refl _) _).setCell (Nat.le_refl _) _).setCell (Nat.le_refl _) _
  by_cases h2 : op = 2
  · subst h2
    rw [show wayA 2 = some (0, [], 0) from rfl]
    go_enter Tryz.func51, Tryz.ntmps51
    go_wp2
    refine bodyPost_ret (v := .tuple #[.agg #[.int .i64 0, .slice none 0 0, .int .i64 0], .bool true]) (by simp [results, Tryz.results51, go_sem]) rfl (TeWy.zero ?_)
    first | exact hw | exact hw.setCell (Nat.le_refl _) _ | exact ((hw.setCell (Nat.le_refl _) _).setCell (Nat.le_refl _) _).setCell (Nat.le_refl _) _
  by_cases h3 : op = 3
  · subst h3
    rw [show wayA 3 = some (1, [1], 1) from rfl]
    go_enter Tryz.func51, Tryz.ntmps51
    go_wp2
    refine bodyPost_ret (v := .tuple #[.agg #[.int .i64 1, .slice (some ⟨w.heap.size + 1, 0, none⟩) 1 1, .int .i64 1], .bool true]) (by simp [results, Tryz.results51, go_sem]) rfl (TeWy.one ?_ ?_)
    · first | exact bal hw _ | exact bal (bal (Below.refl _ _) _) _
    · simp [go_sem]
  by_cases h4 : op = 4
  · subst h4
    rw [show wayA 4 = some (1, [3], 3) from rfl]
    go_enter Tryz.func51, Tryz.ntmps51
    go_wp2
    refine bodyPost_ret (v := .tuple #[.agg #[.int .i64 1, .slice (some ⟨w.heap.size + 1, 0, none⟩) 1 1, .int .i64 3], .bool true]) (by simp [results, Tryz.results51, go_sem]) rfl (TeWy.one ?_ ?_)
    · first | exact bal hw _ | exact bal (bal (Below.refl _ _) _) _
    · simp [go_sem]
  by_cases h5 : op = 5
  · subst h5
    rw [show wayA 5 = some (2, [1], 1) from rfl]
    go_enter Tryz.func51, Tryz.ntmps51
    go_wp2
    refine bodyPost_ret (v := .tuple #[.agg #[.int .i64 2, .slice (some ⟨w.heap.size + 1, 0, none⟩) 1 1, .int .i64 1], .bool true]) (by simp [results, Tryz.results51, go_sem]) rfl (TeWy.one ?_ ?_)
    · first | exact bal hw _ | exact bal (bal (Below.refl _ _) _) _
    · simp [go_sem]
  by_cases h6 : op = 6
  · subst h6
    rw [show wayA 6 = some (2, [1], 1) from rfl]
    go_enter Tryz.func51, Tryz.ntmps51
    go_wp2
    refine bodyPost_ret (v := .tuple #[.agg #[.int .i64 2, .slice (some ⟨w.heap.size + 1, 0, none⟩) 1 1, .int .i64 1], .bool true]) (by simp [results, Tryz.results51, go_sem]) rfl (TeWy.one ?_ ?_)
    · first | exact bal hw _ | exact bal (bal (Below.refl _ _) _) _
    · simp [go_sem]
  by_cases h7 : op = 7
  · subst h7
    rw [show wayA 7 = some (2, [1], 1) from rfl]
    go_enter Tryz.func51, Tryz.ntmps51
    go_wp2
    refine bodyPost_ret (v := .tuple #[.agg #[.int .i64 2, .slice (some ⟨w.heap.size + 1, 0, none⟩) 1 1, .int .i64 1], .bool true]) (by simp [results, Tryz.results51, go_sem]) rfl (TeWy.one ?_ ?_)
    · first | exact bal hw _ | exact bal (bal (Below.refl _ _) _) _
    · simp [go_sem]
  by_cases h8 : op = 8
  · subst h8
    rw [show wayA 8 = some (2, [1, 2], 3) from rfl]
    go_enter Tryz.func51, Tryz.ntmps51
    go_wp2
    refine bodyPost_ret (v := .tuple #[.agg #[.int .i64 2, .slice (some ⟨w.heap.size + 1, 0, none⟩) 2 2, .int .i64 3], .bool true]) (by simp [results, Tryz.results51, go_sem]) rfl (TeWy.two ?_ ?_ ?_)
    · first | exact bal hw _ | exact bal (bal (Below.refl _ _) _) _
    · simp [go_sem]
    · simp [go_sem]
  by_cases h9 : op = 9
  · subst h9
    rw [show wayA 9 = some (2, [1, 2], 3) from rfl]
    go_enter Tryz.func51, Tryz.ntmps51
    go_wp2
    refine bodyPost_ret (v := .tuple #[.agg #[.int .i64 2, .slice (some ⟨w.heap.size + 1, 0, none⟩) 2 2, .int .i64 3], .bool true]) (by simp [results, Tryz.results51, go_sem]) rfl (TeWy.two ?_ ?_ ?_)
    · first | exact bal hw _ | exact bal (bal (Below.refl _ _) _) _
    · simp [go_sem]
    · simp [go_sem]
  by_cases h10 : op = 10
  · subst h10
    rw [show wayA 10 = some (2, [1, 2], 3) from rfl]
    go_enter Tryz.func51, Tryz.ntmps51
    go_wp2
    refine bodyPost_ret (v := .tuple #[.agg #[.int .i64 2, .slice (some ⟨w.heap.size + 1, 0, none⟩) 2 2, .int .i64 3], .bool true]) (by simp [results, Tryz.results51, go_sem]) rfl (TeWy.two ?_ ?_ ?_)
    · first | exact bal hw _ | exact bal (bal (Below.refl _ _) _) _
    · simp [go_sem]
    · simp [go_sem]
  by_cases h11 : op = 11
  · subst h11
    rw [show wayA 11 = some (2, [1, 2], 3) from rfl]
    go_enter Tryz.func51, Tryz.ntmps51
    go_wp2
    refine bodyPost_ret (v := .tuple #[.agg #[.int .i64 2, .slice (some ⟨w.heap.size + 1, 0, none⟩) 2 2, .int .i64 3], .bool true]) (by simp [results, Tryz.results51, go_sem]) rfl (TeWy.two ?_ ?_ ?_)
    · first | exact bal hw _ | exact bal (bal (Below.refl _ _) _) _
    · simp [go_sem]
    · simp [go_sem]
  by_cases h12 : op = 12
  · subst h12
    rw [show wayA 12 = some (2, [1, 2], 3) from rfl]
    go_enter Tryz.func51, Tryz.ntmps51
    go_wp2
    refine bodyPost_ret (v := .tuple #[.agg #[.int .i64 2, .slice (some ⟨w.heap.size + 1, 0, none⟩) 2 2, .int .i64 3], .bool true]) (by simp [results, Tryz.results51, go_sem]) rfl (TeWy.two ?_ ?_ ?_)
    · first | exact bal hw _ | exact bal (bal (Below.refl _ _) _) _
    · simp [go_sem]
    · simp [go_sem]
  by_cases h13 : op = 13
  · subst h13
    rw [show wayA 13 = some (2, [1, 2], 3) from rfl]
    go_enter Tryz.func51, Tryz.ntmps51
    go_wp2
    refine bodyPost_ret (v := .tuple #[.agg #[.int .i64 2, .slice (some ⟨w.heap.size + 1, 0, none⟩) 2 2, .int .i64 3], .bool true]) (by simp [results, Tryz.results51, go_sem]) rfl (TeWy.two ?_ ?_ ?_)
    · first | exact bal hw _ | exact bal (bal (Below.refl _ _) _) _
    · simp [go_sem]
    · simp [go_sem]
  by_cases h14 : op = 14
  · subst h14
    rw [show wayA 14 = some (2, [3], 3) from rfl]
    go_enter Tryz.func51, Tryz.ntmps51
    go_wp2
    refine bodyPost_ret (v := .tuple #[.agg #[.int .i64 2, .slice (some ⟨w.heap.size + 1, 0, none⟩) 1 1, .int .i64 3], .bool true]) (by simp [results, Tryz.results51, go_sem]) rfl (TeWy.one ?_ ?_)
    · first | exact bal hw _ | exact bal (bal (Below.refl _ _) _) _
    · simp [go_sem]
  by_cases h15 : op = 15
  · subst h15
    rw [show wayA 15 = some (2, [3], 3) from rfl]
    go_enter Tryz.func51, Tryz.ntmps51
    go_wp2
    refine bodyPost_ret (v := .tuple #[.agg #[.int .i64 2, .slice (some ⟨w.heap.size + 1, 0, none⟩) 1 1, .int .i64 3], .bool true]) (by simp [results, Tryz.results51, go_sem]) rfl (TeWy.one ?_ ?_)
    · first | exact bal hw _ | exact bal (bal (Below.refl _ _) _) _
    · simp [go_sem]
  rw [show wayA op = none from by unfold wayA; simp [h1, h2, h3, h4, h5, h6, h7, h8, h9, h10, h11, h12, h13, h14, h15]]
  have g1 : decide (op = 1) = false := by simpa using h1
  have g2 : decide (op = 2) = false := by simpa using h2
  have g3 : decide (op = 3) = false := by simpa using h3
  have g4 : decide (op = 4) = false := by simpa using h4
  have g5 : decide (op = 5) = false := by simpa using h5
  have g6 : decide (op = 6) = false := by simpa using h6
  have g7 : decide (op = 7) = false := by simpa using h7
  have g8 : decide (op = 8) = false := by simpa using h8
  have g9 : decide (op = 9) = false := by simpa using h9
  have g10 : decide (op = 10) = false := by simpa using h10
  have g11 : decide (op = 11) = false := by simpa using h11
  have g12 : decide (op = 12) = false := by simpa using h12
  have g13 : decide (op = 13) = false := by simpa using h13
  have g14 : decide (op = 14) = false := by simpa using h14
  have g15 : decide (op = 15) = false := by simpa using h15
  go_enter Tryz.func51, Tryz.ntmps51
  go_wp2
  refine bodyPost_ret (v := .tuple #[.agg #[.int .i64 0, .slice none 0 0, .int .i64 0], .bool false]) (by simp [results, Tryz.results51, go_sem]) rfl (TeWy.none ?_)
  first | exact hw | exact hw.setCell (Nat.le_refl _) _ | exact ((hw.setCell (Nat.le_refl _) _).setCell (Nat.le_refl _) _).setCell (Nat.le_refl _) _

/-- A function value, bound to r, that tells two numbers of an expression. -/
def KindF (f : Pg × Tg → Int × Int) (P : Pg × Tg → Prop) (w : World) (N : Nat) (r : Value) : Prop := (∀ args w', (callFunc N args).run Tryz.prog w' = .ok (.enter N args) w') ∧ ∀ (x : Pg × Tg) (Q : Nat → Prop) (cs : List Value) (w' : World), P x → Below w.heap.size w w' → eG.E Q w' x cs → Calls Tryz.prog N #[r, .agg cs.toArray] w' fun en w'' => en = .returned (.tuple #[.int .i64 (f x).1, .int .i64 (f x).2]) ∧ Below w'.heap.size w' w''
set_option maxRecDepth 100000 in
set_option maxHeartbeats 4000000 in
theorem each1_any {f : Pg × Tg → Int × Int} {P : Pg × Tg → Prop} {w1 : World} {bf : Nat} {N : Nat} {r : Value} (hv : KindF f P w1 N r) (hf : w1.cell? ⟨bf, 0, none⟩ = some (.func (.func N) #[r] #[])) {Q : Nat → Prop} {x : Pg × Tg} (hP : P x) {w' : World} (hb : Below w1.heap.size w1 w') {a : Option Addr} {m d : Nat} {css : List (List Value)} (ho : OwnR 3 1 w1.heap.size w' (.slice a m d) css) (hl : css.length ≤ 500) {cs : List Value} (hx : eG.E Q w' x cs) :
    Calls Tryz.prog 81 #[.slice a m d, .agg cs.toArray, .pointer (some ⟨bf, 0, none⟩)] w' fun en w'' => ∃ a2 m2 d2, en = .returned (.tuple #[.slice a2 m2 d2, .int .i64 (f x).2]) ∧ Below w1.heap.size w1 w'' ∧ OwnR 3 1 w1.heap.size w'' (.slice a2 m2 d2) (css ++ [[.int .i64 (f x).1]]) := by
  obtain ⟨hcf, hN⟩ := hv
  have hEx' := hx
  obtain ⟨ea, en, ec, rfl, -⟩ := hEx'
  simp only [exC] at *
  have HX := hN x Q [.int .i64 x.1.1, .int .i64 x.1.2.1, .int .i64 x.1.2.2.1, .string x.1.2.2.2.1, .string x.1.2.2.2.2.1, .string x.1.2.2.2.2.2, .slice ea en ec] (w'.alloc (.cells #[.int .i64 x.1.1, .int .i64 x.1.2.1, .int .i64 x.1.2.2.1, .string x.1.2.2.2.1, .string x.1.2.2.2.2.1, .string x.1.2.2.2.2.2, .slice ea en ec] 28)) hP (bal hb _) (eG.keep (fun b _ hl => (bal (Below.refl _ _) _).block b hl) hx)
  have bx := Bk.new w' (.cells #[.int .i64 x.1.1, .int .i64 x.1.2.1, .int .i64 x.1.2.2.1, .string x.1.2.2.2.1, .string x.1.2.2.2.2.1, .string x.1.2.2.2.2.2, .slice ea en ec] 28)
  have ho1 := ho.alloc (.cells #[.int .i64 x.1.1, .int .i64 x.1.2.1, .int .i64 x.1.2.2.1, .string x.1.2.2.2.1, .string x.1.2.2.2.2.1, .string x.1.2.2.2.2.2, .slice ea en ec] 28)
  have hb1 := bal hb (.cells #[.int .i64 x.1.1, .int .i64 x.1.2.1, .int .i64 x.1.2.2.1, .string x.1.2.2.2.1, .string x.1.2.2.2.2.1, .string x.1.2.2.2.2.2, .slice ea en ec] 28)
  have hf1 := cell_later hb1 hf
  clear ho hb hN hx hf hP
  generalize (f x).1 = k1 at *
  generalize (f x).2 = k2 at *
  replace HX : Hid _ := hid HX
  go_enter Tryz.func81, Tryz.ntmps81
  go_upto_region 1 with fail
  generalize w'.alloc (.cells #[.int .i64 x.1.1, .int .i64 x.1.2.1, .int .i64 x.1.2.2.1, .string x.1.2.2.2.1, .string x.1.2.2.2.2.1, .string x.1.2.2.2.2.2, .slice ea en ec] 28) = W at *
  have d0 := bx.cell 0
  have d1 := bx.cell 1
  have d2 := bx.cell 2
  have d3 := bx.cell 3
  have d4 := bx.cell 4
  have d5 := bx.cell 5
  have d6 := bx.cell 6
  simp only [List.getElem?_toArray, List.getElem?_cons_zero, List.getElem?_cons_succ] at d0 d1 d2 d3 d4 d5 d6
  clear bx
  go_wp2_with fail
  refine Calls.mono HX.out ?_
  rintro e w4 ⟨rfl, hb4⟩
  have ho4 := ho1.later hb4
  have hB4 := Below.on hb1 hb4
  have ho5 := ho4.alloc (.cells #[.int .i64 k1] 3)
  have hB5 := bal hB4 (.cells #[.int .i64 k1] 3)
  have hblk := ho4.blk
  clear HX hf1 ho1 hb1 hb4 ho4 hB4 d0 d1 d2 d3 d4 d5 d6
  go_wp2_with (first | (at_builtin; go_must (refine wpList_appR Tryz.underlying23 Tryz.infoTInt2 rfl (by decide) (by decide) rfl (.tmp 15) (.tmp 17) rfl _ css w4.heap.size [.int .i64 k1] rfl rfl ho5 rfl (by simp [Value.oneCell']) (newK1 w4 _ _) (by omega) hB5.size ?_)) | fail)
  intro v' w6 hO6 hg6 hown
  have hB6 := below_grows hB5 hB5.size hg6 fun k e => (hblk k e).1
  obtain ⟨a2, m2, d2, rfl⟩ := hO6.sl
  clear hg6 hown ho5 hB5 hblk
  go_wp2
  exact bodyPost_ret (v := .tuple #[.slice a2 m2 d2, .int .i64 k2]) (by simp [results, Tryz.results81]) rfl ⟨a2, m2, d2, rfl, hB6, hO6⟩
set_option maxRecDepth 100000 in
set_option maxHeartbeats 4000000 in
theorem eachEx {l : List (Pg × Tg)} (hlen : l.length ≤ 500) {f : Pg × Tg → Int × Int} {P : Pg × Tg → Prop} {Q : Nat → Prop} {w : World} {ao : Option Addr} {n c : Nat} (h : RowIs eG Q w (.slice ao n c) l) {N : Nat} {r : Value} (hv : KindF f P w N r) (hP : ∀ x ∈ l, P x) :
    Calls Tryz.prog 53 #[.slice ao n c, .func (.func N) #[r] #[]] w fun en w' => ∃ a m d, en = .returned (.tuple #[.slice a m d, .int .i64 (erL (l.map fun x => (f x).2))]) ∧ Below w.heap.size w w' ∧ (erL (l.map fun x => (f x).2) = 0 → RowIs eInt (fun _ => True) w' (.slice a m d) (l.map fun x => (f x).1)) := by
  have hw := bal (Below.refl w.heap.size w) (.cells #[.func (.func N) #[r] #[]] 72)
  have hf := cell_new w #[.func (.func N) #[r] #[]] 72 (0, 0) 0
  generalize hW : w.alloc (.cells #[.func (.func N) #[r] #[]] 72) = W at hw hf
  have hv1 : KindF f P W N r := ⟨hv.1, fun x Q cs w' hp hb hx => hv.2 x Q cs w' hp (Below.on hw hb) hx⟩
  have hr1 : RowIs eG Q W (.slice ao n c) l := h.keep (by decide) fun b _ hl => hw.block b hl
  have hcf : ∀ args w', (callFunc 81 args).run Tryz.prog w' = .ok (.enter 81 args) w' := fun args w' => by rfl
  have HE : erO (fun i => ((l.map fun x => (f x).2)[i]?).getD 0) l.length = erL (l.map fun x => (f x).2) := by
    have := erO_list (l := l.map fun x => (f x).2) (er := fun i => ((l.map fun x => (f x).2)[i]?).getD 0) fun i hi => by rw [List.getElem?_eq_getElem hi]; rfl
    rwa [List.length_map] at this
  have HC := foldExInts hlen hr1 (caps := #[.pointer (some ⟨w.heap.size, 0, none⟩)]) hcf (fun i => ((l.map fun x => (f x).2)[i]?).getD 0) (fun i w' a m d => Below W.heap.size W w' ∧ OwnR 3 1 W.heap.size w' (.slice a m d) ((l.take i).map fun x => [.int .i64 (f x).1]))
    (fun i w' a m d hI => hI.1) (fun i w' a m d o hI => ⟨bal hI.1 o, hI.2.alloc o⟩) (a0 := none) (m0 := 0) (d0 := 0) ⟨Below.refl _ _, OwnR.nil _ _ _ _⟩
    (fun i hi w' a m d cs hI hx => by
      refine Calls.mono (each1_any hv1 hf (hP _ (List.getElem_mem hi)) hI.1 hI.2 (by rw [List.length_map, List.length_take]; omega) hx) ?_
      rintro en w'' ⟨a2, m2, d2, rfl, hb2, ho2⟩
      refine ⟨a2, m2, d2, ?_, hb2, fun _ => ⟨hb2, ?_⟩⟩
      · rw [List.getElem?_eq_getElem (by simpa using hi), List.getElem_map]; rfl
      · rw [List.take_succ_eq_append_getElem hi, List.map_append]; exact ho2)
  rw [HE] at HC
  generalize erL (l.map fun x => (f x).2) = E at *
  replace HC : Hid _ := hid HC
  clear hv hv1 hr1 hf hcf h HE
  go_enter Tryz.func53, Tryz.ntmps53
  go_upto_region 1 with fail
  go_wp2_with fail
  refine Calls.mono HC.out ?_
  rintro e w4 ⟨a, m, d, rfl, hb4, hI⟩
  have HI : Hid _ := hid hI
  clear HC hI
  go_wp2
  refine bodyPost_ret (v := .tuple #[.slice a m d, .int .i64 E]) (by simp [results, Tryz.results53]) rfl ⟨a, m, d, rfl, Below.on hw hb4, fun h0 => ?_⟩
  obtain ⟨hB, ho⟩ := HI.out h0
  rw [List.take_length] at ho
  exact OwnR.rowE (e := eInt) ho (by simp) (fun _ _ _ => trivial) fun i h1 h2 => by
    show _ = _
    simp

end Go.Proofs.YtljmlacnfnmjbaaGreat
