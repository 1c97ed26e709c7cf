import Derived.Test.YtnlaaejdianfjaaGreatQoak
import Derived.Test.YtnlaaejdianfjaaGreatQoah
import Derived.Test.YtnlaaejdianfjaaGreatQoaf
import Derived.Shelf.Abstract
import Derived.OwnWalkIn
import Derived.TacticsInMore
import Derived.LoopNIn
import Derived.LoopIn
namespace Go.Proofs.YtnlaaejdianfjaaGreat
open Go.RowKit
set_option linter.unusedVariables false
set_option linter.unusedSimpArgs false

/-- A function value that asks a row. -/
def SuchR (p : List Vt → Bool) (w : World) (v : Value) : Prop := ∃ N caps, v = .func (.func N) #[] caps ∧ (∀ args w', (callFunc N args).run Tryz.prog w' = .ok (.enter N args) w') ∧ ∀ (x : List Vt) (a : Option Addr) (n c : Nat) (Q : Nat → Prop) (w' : World), Below w.heap.size w w' → RowIs eVal Q w' (.slice a n c) x → Calls Tryz.prog N (#[.slice a n c] ++ caps) w' fun en w'' => en = .returned (.bool (p x)) ∧ Below w'.heap.size w' w''
set_option maxRecDepth 100000 in
set_option maxHeartbeats 2000000 in
theorem idxRow_any {l : List (List Vt)} {p : List Vt → Bool} (hlen : l.length ≤ 500) {Q : Nat → Prop} {w : World} {ao : Option Addr} {n c : Nat} (h : RowIs eRow Q w (.slice ao n c) l) {v : Value} (hv : SuchR p w v) :
    Calls Tryz.prog 108 #[.slice ao n c, v] w fun en w' => en = .returned (.int .i64 (fidx p l)) ∧ Below w.heap.size w w' := by
  have HR : Hid (∀ w', Below w.heap.size w w' → RowIs eRow Q w' (.slice ao n c) l) := hid fun w' hb => h.keep (by decide) fun b _ hl => hb.block b hl
  obtain ⟨N, caps, rfl, hcf, hN⟩ := hv
  have HN : Hid (∀ (x : List Vt) (a : Option Addr) (n c : Nat) (Q : Nat → Prop) (w' : World), Below w.heap.size w w' → _) := hid hN
  obtain ⟨hn, hnc, hc⟩ := row_lens h
  subst hn
  obtain ⟨R, hR⟩ : ∃ R, fidx p l = R := ⟨_, rfl⟩
  have HF : Hid _ := hid hR
  rw [hR]
  clear hN hR h
  go_enter Tryz.func108, Tryz.ntmps108
  go_wp2
  go_loopw [5, 8] (fun _ v8 wr => ∃ k : Nat, k ≤ l.length ∧ v8 = .int .i64 k ∧ Below w.heap.size w wr ∧ Hid (∀ i (hi : i < l.length), i < k → p l[i] = false)) (fun _ i _ => l.length - (intOf i).toNat)
  case atStart => exact ⟨0, Nat.zero_le _, rfl, Below.refl _ _, hid fun i h hi => absurd hi (by omega)⟩
  case round =>
    obtain ⟨k, hk, rfl, hB, HE⟩ := hrel
    by_cases hlt : k < l.length
    · obtain ⟨b, o, xa, xn, xc, rfl, -, x0, rx⟩ := row1 (HR.out wr hB) (k := k) hlt
      obtain ⟨x, hxl⟩ : ∃ x, l[k] = x := ⟨_, rfl⟩
      rw [hxl] at rx
      have HX := HN.out x xa xn xc _ wr hB rx
      have hkm : (k : Int) < (l.length : Int) := by omega
      have hk5 : k ≤ 500 := by omega
      have HXl : Hid _ := hid hxl
      clear rx hxl
      cases hp : p x with
      | true =>
        rw [hp] at HX
        have HP : Hid (fidx p l = k) := hid (fidx_hit hlt HE.out (by rw [HXl.out]; exact hp))
        replace HX : Hid _ := hid HX
        clear hp
        go_wp2_with fail
        refine Calls.mono HX.out ?_
        rintro e w4 ⟨rfl, hb4⟩
        have hB4 : Below w.heap.size w w4 := Below.on hB hb4
        clear HX hb4 hB
        go_wp2
        go_ret
        exact ⟨ret_int (by rw [← HF.out, HP.out]), hB4⟩
      | false =>
        rw [hp] at HX
        have HN2 : Hid (∀ i (hi : i < l.length), i < k + 1 → p l[i] = false) := hid fun i hi hik => by
          by_cases he : i < k
          · exact HE.out i hi he
          · obtain rfl : i = k := by omega
            rw [HXl.out]; exact hp
        replace HX : Hid _ := hid HX
        clear hp HE
        go_wp2_with fail
        refine Calls.mono HX.out ?_
        rintro e w4 ⟨rfl, hb4⟩
        have hB4 : Below w.heap.size w w4 := Below.on hB hb4
        clear HX hb4 hB
        go_wp2
        go_roundw
        case rel => exact ⟨k + 1, hlt, by go_num, hB4, HN2⟩
        case measure => simp only [intOf]; omega
    · obtain rfl : k = l.length := by omega
      have HP : Hid (fidx p l = -1) := hid (fidx_none fun i hi => HE.out i hi hi)
      clear HE
      go_wp2
      go_ret
      exact ⟨ret_int (by rw [← HF.out, HP.out]), hB⟩
set_option maxRecDepth 100000 in
set_option maxHeartbeats 2000000 in
theorem containsRow_any {l : List (List Vt)} {p : List Vt → Bool} (hlen : l.length ≤ 500) {Q : Nat → Prop} {w : World} {ao : Option Addr} {n c : Nat} (h : RowIs eRow Q w (.slice ao n c) l) {v : Value} (hv : SuchR p w v) :
    Calls Tryz.prog 77 #[.slice ao n c, v] w fun en w' => en = .returned (.bool (l.any p)) ∧ Below w.heap.size w w' := by
  have HC : Hid _ := hid (idxRow_any hlen h hv)
  have he := fidxV_any p l
  obtain ⟨N, caps, rfl, hcf, hN⟩ := hv
  clear h hN
  generalize fidx p l = R at *
  have HE : Hid _ := hid he
  clear he
  go_enter Tryz.func77, Tryz.ntmps77
  go_wp2_with fail
  refine Calls.mono HC.out ?_
  rintro e w4 ⟨rfl, hb4⟩
  go_wp2
  go_ret
  exact ⟨ret_bool HE.out, hb4⟩
def lackP (bi : Int) (r : List Vt) : Bool := decide (bi < 0) || decide ((r.length : Int) ≤ bi)
set_option maxRecDepth 100000 in
set_option maxHeartbeats 2000000 in
theorem lacks_any {w : World} {b : Nat} {bi : Int} (hb : w.cell? ⟨b, 0, none⟩ = some (.int .i64 bi)) {x : List Vt} {a : Option Addr} {n c : Nat} {Q : Nat → Prop} (h : RowIs eVal Q w (.slice a n c) x) :
    Calls Tryz.prog 76 #[.slice a n c, .pointer (some ⟨b, 0, none⟩)] w fun e w' => e = .returned (.bool (lackP bi x)) ∧ Below w.heap.size w w' := by
  have hn := (row_lens h).1
  have HT : Hid (lackP bi x = (decide (bi < 0) || decide ((n : Int) ≤ bi))) := hid (by rw [lackP, hn])
  generalize lackP bi x = T at *
  clear h hn
  by_cases h0 : bi < 0
  · have e1 : decide (bi < 0) = true := by simpa using h0
    rw [e1] at HT
    go_enter Tryz.func76, Tryz.ntmps76
    go_wp2
    go_ret
    exact ⟨ret_bool (by rw [HT.out]; rfl), Below.refl _ _⟩
  · have e1 : decide (bi < 0) = false := by simpa using h0
    rw [e1] at HT
    go_enter Tryz.func76, Tryz.ntmps76
    go_wp2
    go_ret
    exact ⟨ret_bool (by rw [HT.out]; rfl), Below.refl _ _⟩
set_option maxRecDepth 100000 in
theorem lacks_of {w : World} {b : Nat} {bi : Int} (hb : w.cell? ⟨b, 0, none⟩ = some (.int .i64 bi)) : SuchR (lackP bi) w (.func (.func 76) #[] #[.pointer (some ⟨b, 0, none⟩)]) :=
  ⟨_, _, rfl, fun args w' => by rfl, fun x a n c Q w' hb2 h => lacks_any (cell_later hb2 hb) h⟩
theorem lack_whole (bi : Int) (L : List (List Vt)) (hp : 0 < L.length) : L.any (lackP bi) = !wholeP bi L := by
  unfold wholeP
  have hp : L ≠ [] := by intro h; subst h; simp at hp
  rw [Bool.eq_iff_iff, List.any_eq_true]
  simp only [lackP, Bool.or_eq_true, decide_eq_true_eq, Bool.not_eq_true', Bool.and_eq_false_iff, decide_eq_false_iff_not, List.all_eq_false]
  constructor
  · rintro ⟨x, hx, h | h⟩
    · exact .inl (by omega)
    · exact .inr ⟨x, hx, by omega⟩
  · rintro (h | ⟨x, hx, h⟩)
    · obtain ⟨x, hx⟩ := List.exists_mem_of_ne_nil _ hp
      exact ⟨x, hx, .inl (by omega)⟩
    · exact ⟨x, hx, .inr (by omega)⟩
set_option maxRecDepth 100000 in
set_option maxHeartbeats 4000000 in
theorem inOrder_any {L : List (List Vt)} (hm : L.length ≤ 20) (bi : Int) (ds : Bool) {Q : Nat → Prop} {w : World} {a : Option Addr} {n c : Nat} (h : RowIs eRow Q w (.slice a n c) L) :
    Calls Tryz.prog 44 #[.slice a n c, .int .i64 bi, .bool ds] w fun e w' => ∃ a' n' c', e = .returned (.slice a' n' c') ∧ RowIs eRow (fun _ => True) w' (.slice a' n' c') (srtP bi ds L) ∧ Below w.heap.size w w' := by
  obtain ⟨l1, l2, l3⟩ := row_lens h
  have hw := bal (Below.refl w.heap.size w) (.cells #[.int .i64 bi] 3)
  have k0 := (Bk.new w (.cells #[.int .i64 bi] 3)).cell 0
  simp only [List.getElem?_toArray, List.getElem?_cons_zero] at k0
  have hmf : ∀ (fn : Fn) (first cap : Array Value) (w : World), (Instr.makeFunc fn first cap).run Tryz.prog w = .ok (.func fn first cap) w := fun _ _ _ _ => rfl
  have HR : Hid (∀ w', Below w.heap.size w w' → RowIs eRow Q w' (.slice a n c) L) := hid fun w' hb => h.keep (by decide) fun b _ hl => hb.block b hl
  have HC : Hid _ := hid (containsRow_any (by omega) (HR.out _ hw) (lacks_of k0))
  by_cases hp : L.length = 0
  · have hL : L = [] := List.eq_nil_of_length_eq_zero hp
    subst hL
    obtain rfl : n = 0 := by simpa using l1.symm
    have hs : srtP bi ds [] = [] := by unfold srtP; split <;> rfl
    rw [hs]
    have HC2 : Hid (Calls Tryz.prog 77 #[.slice a 0 c, .func (.func 76) #[] #[.pointer (some ⟨w.heap.size, 0, none⟩)]] (w.alloc (.cells #[.int .i64 bi] 3)) fun en w' => en = .returned (.bool false) ∧ Below (w.alloc (.cells #[.int .i64 bi] 3)).heap.size (w.alloc (.cells #[.int .i64 bi] 3)) w') := HC
    clear HC HR h hs k0
    cases ds with
    | false =>
      go_enter Tryz.func44, Tryz.ntmps44
      go_upto_region 1 with fail
      generalize w.alloc (.cells #[.int .i64 bi] 3) = W at *
      go_wp2_with fail
      refine Calls.mono HC2.out ?_
      rintro e w1 ⟨rfl, hb1⟩
      have hB := Below.on hw hb1
      have HS : Hid (∀ y, _) := hid fun y => sortedNil_any (ao := a) (c := c) (N := 78) (M := 81) (caps := #[]) (caps2 := #[.pointer (some ⟨w.heap.size, 0, none⟩)]) y
      clear HC2 hb1
      go_wp2_with fail
      refine Calls.mono (HS.out _) ?_
      rintro e w2 ⟨a', c', rfl, hc', hb2⟩
      have hB2 := Below.on hB hb2
      clear HS hb2
      go_wp2
      go_ret
      exact ⟨_, _, _, rfl, ⟨_, 0, c', rfl, rfl, Nat.zero_le _, hc', fun h => absurd h (by omega)⟩, hB2⟩
    | true =>
      go_enter Tryz.func44, Tryz.ntmps44
      go_upto_region 1 with fail
      generalize w.alloc (.cells #[.int .i64 bi] 3) = W at *
      go_wp2_with fail
      refine Calls.mono HC2.out ?_
      rintro e w1 ⟨rfl, hb1⟩
      have hB := Below.on hw hb1
      have HF : Hid _ := hid (falling_any (cmpV_plain w1))
      clear HC2 hb1
      go_wp2_with fail
      refine Calls.mono HF.out ?_
      rintro e w2 ⟨u, rfl, ⟨N, caps, rfl, -, -⟩, hb2⟩
      have hB2 := Below.on hB hb2
      have HS : Hid (∀ y, _) := hid fun y => sortedNil_any (ao := a) (c := c) (N := N) (M := 81) (caps := caps) (caps2 := #[.pointer (some ⟨w.heap.size, 0, none⟩)]) y
      clear HF hb2
      go_wp2_with fail
      refine Calls.mono (HS.out _) ?_
      rintro e w3 ⟨a', c', rfl, hc', hb3⟩
      have hB3 := Below.on hB2 hb3
      clear HS hb3
      go_wp2
      go_ret
      exact ⟨_, _, _, rfl, ⟨_, 0, c', rfl, rfl, Nat.zero_le _, hc', fun h => absurd h (by omega)⟩, hB3⟩
  · rw [lack_whole bi L (by omega)] at HC
    cases hW : wholeP bi L with
    | false =>
      rw [hW] at HC
      have hs : srtP bi ds L = L := by unfold srtP; rw [hW]; rfl
      rw [hs]
      have HC2 : Hid (Calls Tryz.prog 77 #[.slice a n c, .func (.func 76) #[] #[.pointer (some ⟨w.heap.size, 0, none⟩)]] (w.alloc (.cells #[.int .i64 bi] 3)) fun en w' => en = .returned (.bool true) ∧ Below (w.alloc (.cells #[.int .i64 bi] 3)).heap.size (w.alloc (.cells #[.int .i64 bi] 3)) w') := HC
      clear HC h hs k0 hW
      go_enter Tryz.func44, Tryz.ntmps44
      go_upto_region 1 with fail
      generalize w.alloc (.cells #[.int .i64 bi] 3) = W at *
      go_wp2_with fail
      refine Calls.mono HC2.out ?_
      rintro e w1 ⟨rfl, hb1⟩
      have hB := Below.on hw hb1
      clear HC2 hb1
      go_wp2
      go_ret
      exact ⟨_, _, _, rfl, (HR.out _ hB).mono (by decide) fun _ _ _ => trivial, hB⟩
    | true =>
      rw [hW] at HC
      have hs : srtP bi ds L = L.foldl (insP bi.toNat ds) [] := by unfold srtP; rw [hW]; rfl
      have hW' := hW
      unfold wholeP at hW'
      rw [Bool.and_eq_true, List.all_eq_true] at hW'
      have h0 := of_decide_eq_true hW'.1
      have hb : ∀ l ∈ L, bi.toNat < l.length := fun l hl => by
        have := of_decide_eq_true (hW'.2 l hl)
        omega
      obtain ⟨bn, hbn⟩ : ∃ bn : Nat, bi = bn := ⟨bi.toNat, by omega⟩
      subst hbn
      rw [Int.toNat_natCast] at hs hb
      rw [hs]
      have HC2 : Hid (Calls Tryz.prog 77 #[.slice a n c, .func (.func 76) #[] #[.pointer (some ⟨w.heap.size, 0, none⟩)]] (w.alloc (.cells #[.int .i64 (bn : Int)] 3)) fun en w' => en = .returned (.bool false) ∧ Below (w.alloc (.cells #[.int .i64 (bn : Int)] 3)).heap.size (w.alloc (.cells #[.int .i64 (bn : Int)] 3)) w') := HC
      have HB : Hid _ := hid hb
      clear HC h hs hW hW' h0 hb
      cases ds with
      | false =>
        go_enter Tryz.func44, Tryz.ntmps44
        go_upto_region 1 with fail
        generalize w.alloc (.cells #[.int .i64 (bn : Int)] 3) = W at *
        go_wp2_with fail
        refine Calls.mono HC2.out ?_
        rintro e w1 ⟨rfl, hb1⟩
        have hB := Below.on hw hb1
        have HS : Hid _ := hid (sorted_any (ds := false) hm (by omega) HB.out (HR.out _ hB) (keyR_of (cell_later hb1 k0)) (cmpV_plain w1))
        clear HC2 hb1 k0
        go_wp2_with fail
        refine Calls.mono HS.out ?_
        rintro e w2 ⟨a', c', rfl, hr, hb2⟩
        have hB2 := Below.on hB hb2
        have HQ : Hid _ := hid hr
        clear HS hb2 hr
        go_wp2
        go_ret
        exact ⟨_, _, _, rfl, HQ.out, hB2⟩
      | true =>
        go_enter Tryz.func44, Tryz.ntmps44
        go_upto_region 1 with fail
        generalize w.alloc (.cells #[.int .i64 (bn : Int)] 3) = W at *
        go_wp2_with fail
        refine Calls.mono HC2.out ?_
        rintro e w1 ⟨rfl, hb1⟩
        have hB := Below.on hw hb1
        have k1 := cell_later hb1 k0
        have HF : Hid _ := hid (falling_any (cmpV_plain w1))
        clear HC2 hb1 k0
        go_wp2_with fail
        refine Calls.mono HF.out ?_
        rintro e w2 ⟨u, rfl, hu, hb2⟩
        have hB2 := Below.on hB hb2
        have HS : Hid _ := hid (sorted_any (ds := true) hm (by omega) HB.out (HR.out _ hB2) (keyR_of (cell_later hb2 k1)) hu)
        obtain ⟨N, caps, rfl, -, -⟩ := hu
        clear HF hb2 k1
        go_wp2_with fail
        refine Calls.mono HS.out ?_
        rintro e w3 ⟨a', c', rfl, hr, hb3⟩
        have hB3 := Below.on hB2 hb3
        have HQ : Hid _ := hid hr
        clear HS hb3 hr
        go_wp2
        go_ret
        exact ⟨_, _, _, rfl, HQ.out, hB3⟩
theorem srt_mem (bi : Int) (ds : Bool) (L : List (List Vt)) : ∀ l ∈ srtP bi ds L, l ∈ L := by
  have hi : ∀ (bn : Nat) (L O : List (List Vt)), ∀ l ∈ L.foldl (insP bn ds) O, l ∈ O ∨ l ∈ L := fun bn L => by
    induction L with
    | nil => intro O l hl; exact .inl hl
    | cons x L ih =>
      intro O l hl
      rcases ih _ l hl with h | h
      · unfold insP at h
        rcases List.mem_append.1 h with h | h
        · exact .inl (List.mem_of_mem_take h)
        · rcases List.mem_cons.1 h with rfl | h
          · exact .inr (by simp)
          · exact .inl (List.mem_of_mem_drop h)
      · exact .inr (by simp [h])
  unfold srtP
  split
  · intro l hl
    rcases hi _ _ _ l hl with h | h
    · simp at h
    · exact h
  · exact fun l h => h
theorem srt_len (bi : Int) (ds : Bool) (L : List (List Vt)) : (srtP bi ds L).length = L.length := by
  have hi : ∀ (bn : Nat) (L O : List (List Vt)), (L.foldl (insP bn ds) O).length = O.length + L.length := fun bn L => by
    induction L with
    | nil => intro O; rfl
    | cons x L ih =>
      intro O
      rw [List.foldl_cons, ih]
      have : (insP bn ds O x).length = O.length + 1 := by
        unfold insP
        rw [List.length_append, List.length_cons, List.length_take, List.length_drop]
        omega
      rw [this, List.length_cons]; omega
  unfold srtP
  split
  · rw [hi]; simp
  · rfl
set_option maxRecDepth 100000 in
set_option maxHeartbeats 2000000 in
theorem sortT_any {L : List (List Vt)} (hm : L.length ≤ 20) (hM : ∀ l ∈ L, l.length ≤ 500) (hs : ∀ l ∈ L, ∀ v ∈ l, v.2.2.size ≤ 281474976710656) (bi : Int) (ds : Bool) {Q : Nat → Prop} {w : World} {a : Option Addr} {n c : Nat} (h : RowIs eRow Q w (.slice a n c) L) :
    Calls Tryz.prog 16 #[.slice a n c, .int .i64 bi, .bool ds] w fun e w' => ∃ v, e = .returned v ∧ TeRs w.heap.size w' v (srtP bi ds L) ∧ Below w.heap.size w w' := by
  have HI : Hid _ := hid (inOrder_any hm bi ds h)
  have HM : Hid (∀ l ∈ srtP bi ds L, l.length ≤ 500) := hid fun l hl => hM l (srt_mem bi ds L l hl)
  have HS : Hid (∀ l ∈ srtP bi ds L, ∀ v ∈ l, v.2.2.size ≤ 281474976710656) := hid fun l hl => hs l (srt_mem bi ds L l hl)
  have hl := srt_len bi ds L
  generalize srtP bi ds L = R at *
  have hR : R.length ≤ 500 := by omega
  clear h hM hs
  go_enter Tryz.func16, Tryz.ntmps16
  go_wp2_with fail
  refine Calls.mono HI.out ?_
  rintro e w1 ⟨a', n', c', rfl, hr, hb1⟩
  have HC : Hid _ := hid (copied_any hR HM.out HS.out hr)
  clear HI hr
  go_wp2_with fail
  refine Calls.mono HC.out ?_
  rintro e w2 ⟨v, rfl, ht, hb2⟩
  have hB := Below.on hb1 hb2
  have HT : Hid _ := hid (ht.base hb1.size)
  clear HC ht hb1 hb2
  go_wp2
  go_ret
  exact ⟨_, rfl, HT.out, hB⟩

end Go.Proofs.YtnlaaejdianfjaaGreat
namespace Go.Proofs.YtnlaaejdianfjaaGreat
open Go.RowKit
set_option linter.unusedVariables false
set_option linter.unusedSimpArgs false

theorem RowIs.tab0 {Q : Nat → Prop} {w : World} {bt n c : Nat} {T : Tab} {U : List Tab} (h : RowIs eTab Q w (.slice (some ⟨bt, 0, none⟩) n c) (T :: U)) : ∃ a n c a' n' c', w.cell? ⟨bt, 0, none⟩ = some (.string T.1) ∧ w.cell? ⟨bt, 1, none⟩ = some (.slice a n c) ∧ w.cell? ⟨bt, 2, none⟩ = some (.slice a' n' c') ∧ RowIs eCol Q w (.slice a n c) T.2 := by
  obtain ⟨_, _, _, e, h1, h2, h3, h4⟩ := h
  cases e
  obtain ⟨b, o, e, hq, hi⟩ := h4 (by rw [← h1]; simp)
  cases e
  obtain ⟨cs, ⟨a, n, c, a', n', c', rfl, hC⟩, hl, hc⟩ := hi 0 (by simp)
  refine ⟨a, n, c, a', n', c', ?_, ?_, ?_, hC⟩
  · have := hc 0 (by show 0 < 3; decide); simpa [eTab] using this
  · have := hc 1 (by show 1 < 3; decide); simpa [eTab] using this
  · have := hc 2 (by show 2 < 3; decide); simpa [eTab] using this
theorem vaOK_good {k i : Int} {s : ByteArray} (h : VaOK k i s) : mayV k i (nums s) = true ∧ Fits i ∧ s.size ≤ maxLen := by
  rcases h with ⟨rfl, rfl, hs⟩ | ⟨rfl, rfl, hi⟩
  · simp only [List.mem_cons, List.not_mem_nil, or_false] at hs
    refine ⟨?_, fits0, ?_⟩
    · rcases hs with rfl | rfl | rfl | rfl | rfl <;> decide
    · rcases hs with rfl | rfl | rfl | rfl | rfl <;> decide
  · exact ⟨by simp [mayV, nums], by unfold Fits; omega, by decide⟩
theorem rwOK_good {L : List Co} {V : List Vt} (h : RwOK L V) : ∀ v ∈ V, mayV v.1 v.2.1 (nums v.2.2) = true ∧ Fits v.2.1 ∧ v.2.2.size ≤ maxLen := by
  intro v hv
  obtain ⟨i, hi, rfl⟩ := List.mem_iff_getElem.1 hv
  obtain ⟨h1, h2⟩ := h.2 i (by rw [← h.1]; exact hi) hi
  rw [h1]
  exact vaOK_good h2
/-- A row's number, behind it. -/
def ixV (i : Nat) : Vt := (1, (i : Int), ⟨#[]⟩)
/-- What RelOrders finds in the rows that a sort tells. -/
structure OrdF (bn : Nat) (ds : Bool) (n : Nat) (Y : List (List Vt)) : Prop where
  len : Y.length = n
  few : n ≤ 15
  four : ∀ y ∈ Y, y.length = 4
  good : ∀ y ∈ Y, ∀ v ∈ y, mayV v.1 v.2.1 (nums v.2.2) = true ∧ Fits v.2.1 ∧ v.2.2.size ≤ maxLen
  ix : ∀ y ∈ Y, ∃ N : Nat, N < n ∧ y.getD 3 vZ = ixV N
  adj : AdjR (okR bn ds) Y
  all : ∀ i, i < n → ∃ j, ∃ h : j < Y.length, Y[j].getD 3 vZ = ixV i
/-- Rows, each with its number behind it. -/
structure NumD (n : Nat) (X : List (List Vt)) : Prop where
  len : X.length = n
  few : n ≤ 15
  four : ∀ y ∈ X, y.length = 4
  good : ∀ y ∈ X, ∀ v ∈ y, mayV v.1 v.2.1 (nums v.2.2) = true ∧ Fits v.2.1 ∧ v.2.2.size ≤ maxLen
  ix : ∀ i (h : i < X.length), X[i].getD 3 vZ = ixV i
theorem numD_of {L : List Co} (hL : L.length = 3) {R : List (List Vt)} (hR : ∀ r ∈ R, RwOK L r) (h15 : R.length ≤ 15) {X : List (List Vt)} (hl : X.length = R.length) (hX : ∀ i (h1 : i < X.length) (h2 : i < R.length), X[i] = R[i] ++ [ixV i]) : NumD R.length X := by
  have hm : ∀ y ∈ X, ∃ i, ∃ h : i < R.length, y = R[i] ++ [ixV i] := fun y hy => by
    obtain ⟨i, hi, rfl⟩ := List.mem_iff_getElem.1 hy
    exact ⟨i, by omega, hX i hi (by omega)⟩
  have h3 : ∀ i (h : i < R.length), R[i].length = 3 := fun i h => by rw [← hL]; exact (hR _ (List.getElem_mem h)).1
  refine ⟨hl, h15, fun y hy => ?_, fun y hy v hv => ?_, fun i h => ?_⟩
  · obtain ⟨i, h, rfl⟩ := hm y hy
    rw [List.length_append, h3 i h]; rfl
  · obtain ⟨i, h, rfl⟩ := hm y hy
    rcases List.mem_append.1 hv with hv | hv
    · exact rwOK_good (hR _ (List.getElem_mem h)) v hv
    · rw [List.mem_singleton] at hv
      subst hv
      refine ⟨by simp [ixV, mayV, nums], by unfold ixV Fits; dsimp only; omega, by show (0 : Nat) ≤ 9223372036854775807; omega⟩
  · rw [hX i h (by omega), List.getD_eq_getElem?_getD, List.getElem?_append_right (by rw [h3]; omega), h3]
    rfl
theorem ordF_of {n bn : Nat} {ds : Bool} {X : List (List Vt)} (h : NumD n X) (hb : bn < 4) : OrdF bn ds n (srtP (bn : Int) ds X) := by
  have hs := srt_adj (bn := bn) (ds := ds) (fun i hi => by unfold ixN; rw [h.ix i hi]; rfl) (fun x hx => by rw [h.four x hx]; exact hb)
  refine ⟨by rw [srt_len]; exact h.len, h.few, fun y hy => h.four y (srt_mem _ _ _ y hy), fun y hy => h.good y (srt_mem _ _ _ y hy), fun y hy => ?_, hs.1, fun i hi => ?_⟩
  · obtain ⟨i, hi, rfl⟩ := List.mem_iff_getElem.1 (srt_mem _ _ _ y hy)
    exact ⟨i, by rw [← h.len]; exact hi, h.ix i hi⟩
  · have hi' : i < X.length := by rw [h.len]; exact hi
    obtain ⟨j, hj, e⟩ := List.mem_iff_getElem.1 (hs.2 X[i] (List.getElem_mem hi'))
    exact ⟨j, hj, by rw [e]; exact h.ix i hi'⟩
/-- Rows of one's own on a block, each in a block of its own. -/
def ZS (B : Nat) (w : World) (a : Option Addr) (Z : List Zt) : Prop := 0 < Z.length → ∃ g, a = some ⟨g, 0, none⟩ ∧ B ≤ g ∧ g < w.heap.size ∧ RowG w g Z ∧ RowsD B w (some g) Z
theorem OwnR.setO {ty k B r o : Nat} {w : World} {v x : Value} {css : List (List Value)} (h : OwnR ty k B w v css) (hne : v.ownBlock ≠ some r) : OwnR ty k B (w.setCell ⟨r, o, none⟩ x) v css := by
  refine ⟨h.1, h.2.1, ?_⟩
  rcases h.2.2 with k | ⟨b, cap, cur, hv, hg', hh, rr⟩
  · exact .inl k
  · refine .inr ⟨b, cap, cur, hv, hg', ?_, rr⟩
    rw [Below.heap_setCell _ _ _ _ (fun e => hne (by rw [hv]; exact congrArg some e))]
    exact hh
theorem RowG.grown {w w' : World} {g : Nat} {Z : List Zt} {row : Option Nat} (h : RowG w g Z) (hg : w.grownBy w' row) (hne : row ≠ some g) : RowG w' g Z := fun i z hi => by
  have hb : w'.heap[g]? = w.heap[g]? := hg.block g (World.block_lt_of_cell? _ _ (h i z hi).1) fun e => hne e.symm
  have := h i z hi
  unfold World.cell? World.frozen? at this ⊢
  rw [hb]; exact this
theorem RowG.put {w : World} {g k : Nat} {Z : List Zt} (h : RowG w g Z) (hk : k < Z.length) (z : Zt) : RowG (w.setCell ⟨g, k, none⟩ (slV z.1)) g (Z.set k z) := fun i u hi => by
  rw [World.frozen?_setCell]
  by_cases he : i = k
  · subst he
    have h1 := h i Z[i] (List.getElem?_eq_getElem hk)
    rw [List.getElem?_set_self hk] at hi
    cases hi
    exact ⟨World.cell?_setCell_same _ _ _ h1.1, h1.2⟩
  · rw [List.getElem?_set_ne (fun e => he e.symm)] at hi
    have h1 := h i u hi
    exact ⟨by rw [World.cell?_setCell_other _ _ _ _ (fun e => by injection e; omega)]; exact h1.1, h1.2⟩
theorem RowsD.put {B g k : Nat} {w5 w6 : World} {Z : List Zt} {s : Sl} {r : List Vt} (h : RowsD B w5 (some g) Z) (hk : k < Z.length) (hO : OwnR 44 3 B w6 (slV s) (r.map cVs)) (hg : w5.grownBy w6 (slV Z[k].1).ownBlock) (hown : (slV s).ownBlock = (slV Z[k].1).ownBlock ∨ (slV s).ownBlock = some w5.heap.size) (hgl : g < w5.heap.size) :
    RowsD B (w6.setCell ⟨g, k, none⟩ (slV s)) (some g) (Z.set k (s, r)) := by
  have hsg : ∀ b, (slV s).ownBlock = some b → some g ≠ some b := fun b hb e => by
    rcases hown with ho | ho
    · rw [ho] at hb; exact h.out k hk b hb e
    · rw [ho] at hb; injection hb with hb; injection e with e; omega
  have hsz : ∀ i (hi : i < Z.length), i ≠ k → ∀ b, (slV s).ownBlock = some b → (slV Z[i].1).ownBlock ≠ some b := fun i hi hik b hb e => by
    rcases hown with ho | ho
    · rw [ho] at hb; exact h.apart i hi k hk hik b e hb
    · rw [ho] at hb; injection hb with hb
      have := ((h.own i hi).blk b e).2; omega
  have hat : ∀ i (hi : i < (Z.set k (s, r)).length), (i = k ∧ (Z.set k (s, r))[i] = (s, r)) ∨ (i ≠ k ∧ ∃ h : i < Z.length, (Z.set k (s, r))[i] = Z[i]) := fun i hi => by
    by_cases he : i = k
    · subst he; exact .inl ⟨rfl, by simp⟩
    · exact .inr ⟨he, by simpa using hi, by rw [List.getElem_set_ne (fun e => he e.symm)]⟩
  refine ⟨fun i hi => ?_, fun i hi b hb => ?_, fun i hi j hj hij b hb => ?_⟩
  · rcases hat i hi with ⟨_, e⟩ | ⟨hik, h1, e⟩ <;> rw [e]
    · exact hO.setO fun e => hsg g e rfl
    · refine OwnR.setO ⟨(h.own i h1).1, (h.own i h1).2.kept hg ?_⟩ fun e => h.out i h1 g e rfl
      cases hb : (slV Z[i].1).ownBlock with
      | none => exact .inl rfl
      | some b => exact .inr fun e => h.apart i h1 k hk hik b hb e.symm
  · rcases hat i hi with ⟨_, e⟩ | ⟨hik, h1, e⟩ <;> rw [e] at hb
    · exact hsg b hb
    · exact h.out i h1 b hb
  · rcases hat i hi with ⟨h1, e⟩ | ⟨hik, h1, e⟩ <;> rcases hat j hj with ⟨h2, e2⟩ | ⟨hjk, h2, e2⟩ <;> rw [e] at hb <;> rw [e2]
    · omega
    · exact hsz j h2 hjk b hb
    · exact fun hc => hsz i h1 hik b hc hb
    · exact h.apart i h1 j h2 hij b hb

end Go.Proofs.YtnlaaejdianfjaaGreat
namespace Go.Proofs.YtnlaaejdianfjaaGreat
open Go.RowKit Go.Shelf
set_option linter.unusedVariables false
set_option linter.unusedSimpArgs false
attribute [local go_sem] Oper.semAt_some

theorem rowV_gr {B : Nat} {w w' : World} (hg : Gr B w w') {Q : Nat → Prop} {v : Value} {l : List Vt} (h : RowIs eVal Q w v l) : RowIs eVal Q w' v l := by
  obtain ⟨ao, n, c, hv, hl, hn, hc, hx⟩ := h
  refine ⟨ao, n, c, hv, hl, hn, hc, fun hp => ?_⟩
  obtain ⟨b, o, ha, hq, hi⟩ := hx hp
  refine ⟨b, o, ha, hq, fun i h => ?_⟩
  obtain ⟨cs, h1, h2, h3⟩ := hi i h
  exact ⟨cs, h1, h2, fun j hj => (hg.cell (h3 j hj)).1⟩
/-- The k-th row is told: it lies ahead of n0, or in what is new since s. -/
def A1 (n0 : Nat) (Rs : List (List Vt)) (k s : Nat) (W : World) (xs : Array Value) : Prop := ∃ a n c r, xs = #[.slice a n c] ∧ Rs[k]? = some r ∧ RowIs eVal (fun b => b < n0 ∨ s ≤ b) W (.slice a n c) r
theorem A1.on {n0 : Nat} {Rs : List (List Vt)} {k s s' : Nat} {W W' : World} {xs : Array Value} (h : A1 n0 Rs k s W xs) (hs : s' ≤ s) (hg : Gr 0 W W') : A1 n0 Rs k s' W' xs ∧ xs.size = 1 := by
  obtain ⟨a, n, c, r, rfl, h1, h2⟩ := h
  exact ⟨⟨a, n, c, r, rfl, h1, (rowV_gr hg h2).mono (by decide) fun b hq _ => hq.imp id (fun x => Nat.le_trans hs x)⟩, rfl⟩
set_option maxRecDepth 100000 in
set_option maxHeartbeats 2000000 in
theorem values_any {Q : Nat → Prop} {w0 : World} {B : Nat} {a : Option Addr} {n c : Nat} {L : List (List Vt)} (hB : w0.cell? ⟨B, 0, none⟩ = some (.slice a n c)) (h : RowIs eRow Q w0 (.slice a n c) L) :
    SeqW Tryz.prog 87 #[.pointer (some ⟨B, 0, none⟩)] L.length (A1 w0.heap.size L) w0 := by
  intro l J Jx W hW hY h0
  obtain ⟨l1, l2, l3⟩ := row_lens h
  have HF : Hid (∀ w', Below w0.heap.size w0 w' → ∀ i (h : i < n), ∃ b o a' n' c', a = some ⟨b, o, none⟩ ∧ w'.cell? ⟨b, o + i, none⟩ = some (.slice a' n' c') ∧ ∀ s, A1 w0.heap.size L i s w' #[.slice a' n' c']) := hid fun w' hb i hi => by
    obtain ⟨b, o, ra, rn, rc, h1, h2, h3, h4⟩ := row1 h (k := i) (by omega)
    refine ⟨b, o, ra, rn, rc, h1, cell_later hb h3, fun s => ⟨ra, rn, rc, _, rfl, List.getElem?_eq_getElem (by omega), ?_⟩⟩
    exact ((h4.mono (by decide) (Q' := fun b => b < w0.heap.size) fun b _ hl => hl).keep (by decide) fun b _ hl => hb.block b hl).mono (by decide) fun b hq _ => .inl hq
  have hBW := cell_later hW hB
  have HY : Hid _ := hid hY
  have HN : Hid (L.length = n) := hid l1
  have HJ0 : Hid (J 0 W) := hid h0
  have HG0 : Hid (Gr W.heap.size W W) := hid (Gr.refl _ _)
  rw [l1] at hY ⊢
  clear hY h l1 h0
  refine (callsIn_wide (n := 0)).1 (callsIn_of_wp Tryz.func87 rfl trivial ?_)
  simp only [Tryz.ntmps87, List.size_toArray, List.length_cons, List.length_nil, Nat.reduceAdd, Nat.reduceSub, Array.replicate_succ, Array.replicate_zero, List.push_toArray, List.append_toArray, List.nil_append, List.cons_append]
  gi_wp2
  gi_loopw [7] (fun i wr => ∃ (k : Nat) (W1 : World), k ≤ n ∧ i = .int .i64 k ∧ Hid (J k W1) ∧ Hid (Gr W.heap.size W1 wr) ∧ Below w0.heap.size w0 wr) (fun i _ => n - (intOf i).toNat)
  case atStart => exact ⟨0, W, Nat.zero_le _, rfl, HJ0, HG0, hW⟩
  case round =>
    obtain ⟨k, W1, hk, rfl, HJ, HG, hB2⟩ := hrel
    clear HJ0 HG0
    by_cases hlt : k < n
    · obtain ⟨b, o, a', n', c', rfl, hc, hA⟩ := HF.out wr hB2 k hlt
      obtain ⟨fn, tmps, assign, body, hy, hR⟩ := HY.out k W1 wr _ (by rw [HN.out]; exact hlt) HJ.out hB2 HG.out (hA _)
      have hkm : (k : Int) < (n : Int) := by omega
      have hwk := wrapS hlt l2 l3
      have HR : Hid _ := hid hR
      clear hR hA
      gi_wp2
      refine ⟨rfl, HR.out.mono ?_⟩
      rintro e' W3 ⟨hk3, ⟨rfl, hJ3⟩ | ⟨rfl, hJx3⟩⟩
      · have hB3 := hB2.trans hk3.low
        have HJ3 : Hid _ := hid hJ3
        clear hJ3 hk3 HR
        gi_wp2
        go_roundw
        case rel => exact ⟨k + 1, W3, by omega, by go_num, HJ3, hid (Gr.refl _ _), hB3⟩
        case measure => simp only [intOf]; omega
      · have hB3 := hB2.trans hk3.low
        have HJ3 : Hid _ := hid hJx3
        clear hJx3 hk3 HR
        gi_wp2
        refine bodyPost_ret (results_none rfl _ _ _) rfl ?_
        exact ⟨⟨_, rfl⟩, hB3, W3, Gr.refl _ _, .inr ⟨k + 1, by omega, HJ3.out⟩⟩
    · obtain rfl : k = n := by omega
      gi_wp2
      go_end0
      exact ⟨⟨_, rfl⟩, hB2, W1, HG.out, .inl HJ.out⟩

end Go.Proofs.YtnlaaejdianfjaaGreat
