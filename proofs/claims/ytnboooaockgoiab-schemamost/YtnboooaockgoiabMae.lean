import Derived.Test.YtnboooaockgoiabMad
/- How a list is looked up. -/
namespace Go.Proofs.Ytnboooaockgoiab
open Go.RowKit
set_option linter.unusedVariables false
set_option linter.unusedSimpArgs false

/-- Where the first such one stands; -1: there is none. -/
def fidx {α : Type} (p : α → Bool) (l : List α) : Int := if l.findIdx p < l.length then (l.findIdx p : Int) else -1
theorem fidx_hit {α : Type} {p : α → Bool} {l : List α} {k : Nat} (hk : k < l.length) (h : ∀ i (hi : i < l.length), i < k → p l[i] = false) (hp : p l[k] = true) : fidx p l = k := by
  have : l.findIdx p = k := (List.findIdx_eq hk).2 ⟨hp, fun j hj => by simpa using h j (by omega) hj⟩
  rw [fidx, this, if_pos hk]
theorem fidx_none {α : Type} {p : α → Bool} {l : List α} (h : ∀ i (hi : i < l.length), p l[i] = false) : fidx p l = -1 := by
  have : l.findIdx p = l.length := List.findIdx_eq_length.2 fun x hx => by
    obtain ⟨i, hi, rfl⟩ := List.mem_iff_getElem.1 hx
    simpa using h i hi
  rw [fidx, this, if_neg (Nat.lt_irrefl _)]
theorem fidx_vals {α : Type} (p : α → Bool) (l : List α) : fidx p l = -1 ∨ ∃ k : Nat, fidx p l = k ∧ k < l.length := by
  unfold fidx
  split
  · exact .inr ⟨_, rfl, by assumption⟩
  · exact .inl rfl
theorem fidx_at {α : Type} {p : α → Bool} {l : List α} {k : Nat} (h : fidx p l = k) : ∃ hk : k < l.length, p l[k] = true := by
  unfold fidx at h
  split at h
  · rename_i hlt
    obtain rfl : l.findIdx p = k := by omega
    exact ⟨hlt, List.findIdx_getElem⟩
  · omega
/-- A function value that answers p of a thing in memory. -/
def SuchZ {α : Type} (e : Ek α) (p : α → Bool) (w : World) (v : Value) : Prop := ∃ N caps, v = .func (.func N) #[] caps ∧ (∀ args w', (callFunc N args).run Try.prog w' = .ok (.enter N args) w') ∧ ∀ (x : α) (Q : Nat → Prop) (cs : List Value) (w' : World), Below w.heap.size w w' → e.E Q w' x cs → Calls Try.prog N (#[.agg cs.toArray] ++ caps) w' fun en w'' => en = .returned (.bool (p x)) ∧ Below w'.heap.size w' w''
/-- A function that tells a name. -/
def NameZ {α : Type} (e : Ek α) (nm : α → ByteArray) (N : Nat) : Prop := (∀ args w', (callFunc N args).run Try.prog w' = .ok (.enter N args) w') ∧ ∀ (x : α) (Q : Nat → Prop) (cs : List Value) (w : World), e.E Q w x cs → Calls Try.prog N #[.agg cs.toArray] w fun en w' => en = .returned (.string (nm x)) ∧ Below w.heap.size w w'

set_option maxRecDepth 100000 in
set_option maxHeartbeats 2000000 in
theorem idxCol_any {l : List Co} {p : Co → Bool} (hlen : l.length ≤ 500) {Q : Nat → Prop} {w : World} {ao : Option Addr} {n c : Nat} (h : RowIs eCol Q w (.slice ao n c) l) {v : Value} (hv : SuchZ eCol p w v) :
    Calls Try.prog 34 #[.slice ao n c, v] w fun en w' => en = .returned (.int .i64 (fidx p l)) ∧ Below w.heap.size w w' := by
  have HR : Hid (∀ w', Below w.heap.size w w' → RowIs eCol Q w' (.slice ao n c) l) := hid fun w' hb => h.keep (by decide) fun b _ hl => hb.block b hl
  obtain ⟨N, caps, rfl, hcf, hN⟩ := hv
  have HN : Hid (∀ (x : Co) (Q : Nat → Prop) (cs : List Value) (w' : World), Below w.heap.size w w' → _) := hid hN
  obtain ⟨ao', n', c', e', hn, hnc, hc, _⟩ := h
  cases e'
  subst hn
  obtain ⟨R, hR⟩ : ∃ R, fidx p l = R := ⟨_, rfl⟩
  have HF : Hid _ := hid hR
  rw [hR]
  clear hN hR
  go_enter Try.func34, Try.ntmps34
  go_wp2
  go_loopw [5, 8] (fun _ v8 wr => ∃ k : Nat, k ≤ l.length ∧ v8 = .int .i64 k ∧ Below w.heap.size w wr ∧ Hid (∀ i (hi : i < l.length), i < k → p l[i] = false)) (fun _ i _ => l.length - (intOf i).toNat)
  case atStart => exact ⟨0, Nat.zero_le _, rfl, Below.refl _ _, hid fun i h hi => absurd hi (by omega)⟩
  case round =>
    obtain ⟨k, hk, rfl, hB, HE⟩ := hrel
    by_cases hlt : k < l.length
    · obtain ⟨_, _, _, e', _, _, _, hx⟩ := HR.out wr hB
      cases e'
      obtain ⟨b, o, rfl, hq, hi⟩ := hx (by omega)
      obtain ⟨cs, hEx, h2, h3⟩ := hi k hlt
      obtain ⟨x, hxl⟩ : ∃ x, l[k] = x := ⟨_, rfl⟩
      rw [hxl] at hEx
      have hEx' := hEx
      obtain rfl := hEx'
      have c0 : wr.cell? ⟨b, o + k * 3, none⟩ = some (.string x.1) := h3 0 (show 0 < 3 by decide)
      have c1 : wr.cell? ⟨b, o + k * 3 + 1, none⟩ = some (.int .i64 x.2.1) := h3 1 (show 1 < 3 by decide)
      have c2 : wr.cell? ⟨b, o + k * 3 + 2, none⟩ = some (.string x.2.2) := h3 2 (show 2 < 3 by decide)
      have HX := HN.out x _ _ wr hB hEx
      have hkm : (k : Int) < (l.length : Int) := by omega
      have hk5 : k ≤ 500 := by omega
      have HXl : Hid _ := hid hxl
      clear hEx h2 h3 hi hx hxl
      cases hp : p x with
      | true =>
        rw [hp] at HX
        have HP : Hid (fidx p l = k) := hid (fidx_hit hlt HE.out (by rw [HXl.out]; exact hp))
        replace HX : Hid _ := hid HX
        clear hp
        go_wp2_with fail
        refine Calls.mono HX.out ?_
        rintro e w4 ⟨rfl, hb4⟩
        have hB4 : Below w.heap.size w w4 := Below.on hB hb4
        clear HX hb4 hB
        go_wp2
        go_ret
        exact ⟨ret_int (by rw [← HF.out, HP.out]), hB4⟩
      | false =>
        rw [hp] at HX
        have HN2 : Hid (∀ i (hi : i < l.length), i < k + 1 → p l[i] = false) := hid fun i hi hik => by
          by_cases he : i < k
          · exact HE.out i hi he
          · obtain rfl : i = k := by omega
            rw [HXl.out]; exact hp
        replace HX : Hid _ := hid HX
        clear hp HE
        go_wp2_with fail
        refine Calls.mono HX.out ?_
        rintro e w4 ⟨rfl, hb4⟩
        have hB4 : Below w.heap.size w w4 := Below.on hB hb4
        clear HX hb4 hB
        go_wp2
        go_roundw
        case rel => exact ⟨k + 1, hlt, by go_num, hB4, HN2⟩
        case measure => simp only [intOf]; omega
    · obtain rfl : k = l.length := by omega
      have HP : Hid (fidx p l = -1) := hid (fidx_none fun i hi => HE.out i hi hi)
      clear HE
      go_wp2
      go_ret
      exact ⟨ret_int (by rw [← HF.out, HP.out]), hB⟩


set_option maxRecDepth 100000 in
set_option maxHeartbeats 2000000 in
theorem idxTbl_any {l : List Tbl} {p : Tbl → Bool} (hlen : l.length ≤ 500) {Q : Nat → Prop} {w : World} {ao : Option Addr} {n c : Nat} (h : RowIs eTbl Q w (.slice ao n c) l) {v : Value} (hv : SuchZ eTbl p w v) :
    Calls Try.prog 41 #[.slice ao n c, v] w fun en w' => en = .returned (.int .i64 (fidx p l)) ∧ Below w.heap.size w w' := by
  have HR : Hid (∀ w', Below w.heap.size w w' → RowIs eTbl Q w' (.slice ao n c) l) := hid fun w' hb => h.keep (by decide) fun b _ hl => hb.block b hl
  obtain ⟨N, caps, rfl, hcf, hN⟩ := hv
  have HN : Hid (∀ (x : Tbl) (Q : Nat → Prop) (cs : List Value) (w' : World), Below w.heap.size w w' → _) := hid hN
  obtain ⟨ao', n', c', e', hn, hnc, hc, _⟩ := h
  cases e'
  subst hn
  obtain ⟨R, hR⟩ : ∃ R, fidx p l = R := ⟨_, rfl⟩
  have HF : Hid _ := hid hR
  rw [hR]
  clear hN hR
  go_enter Try.func41, Try.ntmps41
  go_wp2
  go_loopw [5, 8] (fun _ v8 wr => ∃ k : Nat, k ≤ l.length ∧ v8 = .int .i64 k ∧ Below w.heap.size w wr ∧ Hid (∀ i (hi : i < l.length), i < k → p l[i] = false)) (fun _ i _ => l.length - (intOf i).toNat)
  case atStart => exact ⟨0, Nat.zero_le _, rfl, Below.refl _ _, hid fun i h hi => absurd hi (by omega)⟩
  case round =>
    obtain ⟨k, hk, rfl, hB, HE⟩ := hrel
    by_cases hlt : k < l.length
    · obtain ⟨_, _, _, e', _, _, _, hx⟩ := HR.out wr hB
      cases e'
      obtain ⟨b, o, rfl, hq, hi⟩ := hx (by omega)
      obtain ⟨cs, hEx, h2, h3⟩ := hi k hlt
      obtain ⟨x, hxl⟩ : ∃ x, l[k] = x := ⟨_, rfl⟩
      rw [hxl] at hEx
      have hEx' := hEx
      obtain ⟨ea, en, ec, ea', en', ec', rfl, er1, er2⟩ := hEx'
      have c0 : wr.cell? ⟨b, o + k * 3, none⟩ = some (.string x.name) := h3 0 (show 0 < 3 by decide)
      have c1 : wr.cell? ⟨b, o + k * 3 + 1, none⟩ = some (.slice ea en ec) := h3 1 (show 1 < 3 by decide)
      have c2 : wr.cell? ⟨b, o + k * 3 + 2, none⟩ = some (.slice ea' en' ec') := h3 2 (show 2 < 3 by decide)
      have HX := HN.out x _ _ wr hB hEx
      have hkm : (k : Int) < (l.length : Int) := by omega
      have hk5 : k ≤ 500 := by omega
      have HXl : Hid _ := hid hxl
      clear hEx h2 h3 hi hx hxl er1 er2
      cases hp : p x with
      | true =>
        rw [hp] at HX
        have HP : Hid (fidx p l = k) := hid (fidx_hit hlt HE.out (by rw [HXl.out]; exact hp))
        replace HX : Hid _ := hid HX
        clear hp
        go_wp2_with fail
        refine Calls.mono HX.out ?_
        rintro e w4 ⟨rfl, hb4⟩
        have hB4 : Below w.heap.size w w4 := Below.on hB hb4
        clear HX hb4 hB
        go_wp2
        go_ret
        exact ⟨ret_int (by rw [← HF.out, HP.out]), hB4⟩
      | false =>
        rw [hp] at HX
        have HN2 : Hid (∀ i (hi : i < l.length), i < k + 1 → p l[i] = false) := hid fun i hi hik => by
          by_cases he : i < k
          · exact HE.out i hi he
          · obtain rfl : i = k := by omega
            rw [HXl.out]; exact hp
        replace HX : Hid _ := hid HX
        clear hp HE
        go_wp2_with fail
        refine Calls.mono HX.out ?_
        rintro e w4 ⟨rfl, hb4⟩
        have hB4 : Below w.heap.size w w4 := Below.on hB hb4
        clear HX hb4 hB
        go_wp2
        go_roundw
        case rel => exact ⟨k + 1, hlt, by go_num, hB4, HN2⟩
        case measure => simp only [intOf]; omega
    · obtain rfl : k = l.length := by omega
      have HP : Hid (fidx p l = -1) := hid (fidx_none fun i hi => HE.out i hi hi)
      clear HE
      go_wp2
      go_ret
      exact ⟨ret_int (by rw [← HF.out, HP.out]), hB⟩


set_option maxRecDepth 100000 in
set_option maxHeartbeats 2000000 in
theorem idxVw_any {l : List Vw} {p : Vw → Bool} (hlen : l.length ≤ 500) {Q : Nat → Prop} {w : World} {ao : Option Addr} {n c : Nat} (h : RowIs eVw Q w (.slice ao n c) l) {v : Value} (hv : SuchZ eVw p w v) :
    Calls Try.prog 67 #[.slice ao n c, v] w fun en w' => en = .returned (.int .i64 (fidx p l)) ∧ Below w.heap.size w w' := by
  have HR : Hid (∀ w', Below w.heap.size w w' → RowIs eVw Q w' (.slice ao n c) l) := hid fun w' hb => h.keep (by decide) fun b _ hl => hb.block b hl
  obtain ⟨N, caps, rfl, hcf, hN⟩ := hv
  have HN : Hid (∀ (x : Vw) (Q : Nat → Prop) (cs : List Value) (w' : World), Below w.heap.size w w' → _) := hid hN
  obtain ⟨ao', n', c', e', hn, hnc, hc, _⟩ := h
  cases e'
  subst hn
  obtain ⟨R, hR⟩ : ∃ R, fidx p l = R := ⟨_, rfl⟩
  have HF : Hid _ := hid hR
  rw [hR]
  clear hN hR
  go_enter Try.func67, Try.ntmps67
  go_wp2
  go_loopw [5, 8] (fun _ v8 wr => ∃ k : Nat, k ≤ l.length ∧ v8 = .int .i64 k ∧ Below w.heap.size w wr ∧ Hid (∀ i (hi : i < l.length), i < k → p l[i] = false)) (fun _ i _ => l.length - (intOf i).toNat)
  case atStart => exact ⟨0, Nat.zero_le _, rfl, Below.refl _ _, hid fun i h hi => absurd hi (by omega)⟩
  case round =>
    obtain ⟨k, hk, rfl, hB, HE⟩ := hrel
    by_cases hlt : k < l.length
    · obtain ⟨_, _, _, e', _, _, _, hx⟩ := HR.out wr hB
      cases e'
      obtain ⟨b, o, rfl, hq, hi⟩ := hx (by omega)
      obtain ⟨cs, hEx, h2, h3⟩ := hi k hlt
      obtain ⟨x, hxl⟩ : ∃ x, l[k] = x := ⟨_, rfl⟩
      rw [hxl] at hEx
      have hEx' := hEx
      obtain ⟨ea, en, ec, ⟨ek, etb, enm, ⟨eco1, eco2, eco3⟩, ⟨eta1, eta2, eta3⟩, ⟨eva1, eva2, eva3⟩, ⟨eit1, eit2, eit3⟩, ejn, ⟨eon1, eon2, eon3⟩, ⟨ewh1, ewh2, ewh3⟩, ⟨eod1, eod2, eod3⟩, eds, ⟨ein1, ein2, ein3⟩⟩, rfl, er1, er2, er3⟩ := hEx'
      have c0 : wr.cell? ⟨b, o + k * 15, none⟩ = some (.string x.name) := h3 0 (show 0 < 15 by decide)
      have c1 : wr.cell? ⟨b, o + k * 15 + 1, none⟩ = some (.slice ea en ec) := h3 1 (show 1 < 15 by decide)
      have c2 : wr.cell? ⟨b, o + k * 15 + 2, none⟩ = some (.int .i64 ek) := h3 2 (show 2 < 15 by decide)
      have c3 : wr.cell? ⟨b, o + k * 15 + 3, none⟩ = some (.string etb) := h3 3 (show 3 < 15 by decide)
      have c4 : wr.cell? ⟨b, o + k * 15 + 4, none⟩ = some (.string enm) := h3 4 (show 4 < 15 by decide)
      have c5 : wr.cell? ⟨b, o + k * 15 + 5, none⟩ = some (.slice eco1 eco2 eco3) := h3 5 (show 5 < 15 by decide)
      have c6 : wr.cell? ⟨b, o + k * 15 + 6, none⟩ = some (.slice eta1 eta2 eta3) := h3 6 (show 6 < 15 by decide)
      have c7 : wr.cell? ⟨b, o + k * 15 + 7, none⟩ = some (.slice eva1 eva2 eva3) := h3 7 (show 7 < 15 by decide)
      have c8 : wr.cell? ⟨b, o + k * 15 + 8, none⟩ = some (.slice eit1 eit2 eit3) := h3 8 (show 8 < 15 by decide)
      have c9 : wr.cell? ⟨b, o + k * 15 + 9, none⟩ = some (.string ejn) := h3 9 (show 9 < 15 by decide)
      have c10 : wr.cell? ⟨b, o + k * 15 + 10, none⟩ = some (.slice eon1 eon2 eon3) := h3 10 (show 10 < 15 by decide)
      have c11 : wr.cell? ⟨b, o + k * 15 + 11, none⟩ = some (.slice ewh1 ewh2 ewh3) := h3 11 (show 11 < 15 by decide)
      have c12 : wr.cell? ⟨b, o + k * 15 + 12, none⟩ = some (.slice eod1 eod2 eod3) := h3 12 (show 12 < 15 by decide)
      have c13 : wr.cell? ⟨b, o + k * 15 + 13, none⟩ = some (.bool eds) := h3 13 (show 13 < 15 by decide)
      have c14 : wr.cell? ⟨b, o + k * 15 + 14, none⟩ = some (.slice ein1 ein2 ein3) := h3 14 (show 14 < 15 by decide)
      have HX := HN.out x _ _ wr hB hEx
      have hkm : (k : Int) < (l.length : Int) := by omega
      have hk5 : k ≤ 500 := by omega
      have HXl : Hid _ := hid hxl
      clear hEx h2 h3 hi hx hxl er1 er2 er3
      cases hp : p x with
      | true =>
        rw [hp] at HX
        have HP : Hid (fidx p l = k) := hid (fidx_hit hlt HE.out (by rw [HXl.out]; exact hp))
        replace HX : Hid _ := hid HX
        clear hp
        go_wp2_with fail
        refine Calls.mono HX.out ?_
        rintro e w4 ⟨rfl, hb4⟩
        have hB4 : Below w.heap.size w w4 := Below.on hB hb4
        clear HX hb4 hB
        go_wp2
        go_ret
        exact ⟨ret_int (by rw [← HF.out, HP.out]), hB4⟩
      | false =>
        rw [hp] at HX
        have HN2 : Hid (∀ i (hi : i < l.length), i < k + 1 → p l[i] = false) := hid fun i hi hik => by
          by_cases he : i < k
          · exact HE.out i hi he
          · obtain rfl : i = k := by omega
            rw [HXl.out]; exact hp
        replace HX : Hid _ := hid HX
        clear hp HE
        go_wp2_with fail
        refine Calls.mono HX.out ?_
        rintro e w4 ⟨rfl, hb4⟩
        have hB4 : Below w.heap.size w w4 := Below.on hB hb4
        clear HX hb4 hB
        go_wp2
        go_roundw
        case rel => exact ⟨k + 1, hlt, by go_num, hB4, HN2⟩
        case measure => simp only [intOf]; omega
    · obtain rfl : k = l.length := by omega
      have HP : Hid (fidx p l = -1) := hid (fidx_none fun i hi => HE.out i hi hi)
      clear HE
      go_wp2
      go_ret
      exact ⟨ret_int (by rw [← HF.out, HP.out]), hB⟩


end Go.Proofs.Ytnboooaockgoiab
/- Names; where one stands. -/
namespace Go.Proofs.Ytnboooaockgoiab
open Go.RowKit
set_option linter.unusedVariables false
set_option linter.unusedSimpArgs false

set_option maxRecDepth 100000 in
theorem name_col : NameZ eCol (fun c => c.1) 32 := by
  refine ⟨fun _ _ => rfl, fun x Q cs w h => ?_⟩
  obtain rfl := h
  skip
  skip
  go_enter Try.func32, Try.ntmps32
  go_wp2
  go_ret
  exact ⟨rfl, bal (Below.refl _ _) _⟩

set_option maxRecDepth 100000 in
theorem name_tbl : NameZ eTbl (fun t => t.name) 31 := by
  refine ⟨fun _ _ => rfl, fun x Q cs w h => ?_⟩
  obtain ⟨ea, en, ec, ea', en', ec', rfl, er1, er2⟩ := h
  skip
  skip
  go_enter Try.func31, Try.ntmps31
  go_wp2
  go_ret
  exact ⟨rfl, bal (Below.refl _ _) _⟩

set_option maxRecDepth 100000 in
theorem name_vw : NameZ eVw (fun t => t.name) 50 := by
  refine ⟨fun _ _ => rfl, fun x Q cs w h => ?_⟩
  obtain ⟨ea, en, ec, ⟨ek, etb, enm, ⟨eco1, eco2, eco3⟩, ⟨eta1, eta2, eta3⟩, ⟨eva1, eva2, eva3⟩, ⟨eit1, eit2, eit3⟩, ejn, ⟨eon1, eon2, eon3⟩, ⟨ewh1, ewh2, ewh3⟩, ⟨eod1, eod2, eod3⟩, eds, ⟨ein1, ein2, ein3⟩⟩, rfl, er1, er2, er3⟩ := h
  unfold svC
  clear er1 er2 er3
  go_enter Try.func50, Try.ntmps50
  go_wp2
  go_ret
  exact ⟨rfl, bal (Below.refl _ _) _⟩

set_option maxRecDepth 100000 in
set_option maxHeartbeats 2000000 in
theorem suchCol {nm : Co → ByteArray} {N : Nat} (hN : NameZ eCol nm N) {w : World} {q r : Nat} {name : ByteArray} (c1 : w.cell? ⟨q, 1, none⟩ = some (.func (.func N) #[] #[])) (c2 : w.cell? ⟨r, 0, none⟩ = some (.string name)) :
    SuchZ eCol (fun x => eqS (nm x) name) w (.func (.func 35) #[] #[.pointer (some ⟨q, 0, none⟩), .pointer (some ⟨r, 0, none⟩)]) := by
  refine ⟨_, _, rfl, fun _ _ => rfl, fun x Q cs w1 hb h => ?_⟩
  have g1 := cell_later hb c1
  have g2 := cell_later hb c2
  clear c1 c2 hb
  obtain ⟨hcf, hN⟩ := hN
  have hs : ((nm x).toList == name.toList) = eqS (nm x) name := same_str (nm x) name
  have h' := h
  obtain rfl := h'
  have HX : Hid (∀ w2, Below (w1.alloc (.cells #[.string x.1, .int .i64 x.2.1, .string x.2.2] 36)).heap.size (w1.alloc (.cells #[.string x.1, .int .i64 x.2.1, .string x.2.2] 36)) w2 → _) := hid fun w2 hb2 => hN x Q _ w2 ((eCol).keep (fun b _ hl => (Below.on (bal (Below.refl _ w1) _) hb2).block b hl) h)
  obtain ⟨R, hR⟩ : ∃ R, eqS (nm x) name = R := ⟨_, rfl⟩
  simp only [hR] at hs ⊢
  clear h hN hR
  obtain ⟨D, hD⟩ : ∃ D, nm x = D := ⟨_, rfl⟩
  simp only [hD] at hs HX
  go_enter Try.func35, Try.ntmps35
  go_upto_region 1 with fail
  have b0 := Bk.new w1 (.cells #[.string x.1, .int .i64 x.2.1, .string x.2.2] 36)
  have hw := bal (Below.refl _ w1) (.cells #[.string x.1, .int .i64 x.2.1, .string x.2.2] 36)
  replace g1 := cell_later hw g1
  replace g2 := cell_later hw g2
  generalize w1.alloc (.cells #[.string x.1, .int .i64 x.2.1, .string x.2.2] 36) = U at *
  have hY : Below U.heap.size U U.drew := (Below.refl _ _).drew
  have c0 := b0.cell 0
  have c1 := b0.cell 1
  have c2 := b0.cell 2
  simp only [List.getElem?_toArray, List.getElem?_cons_zero, List.getElem?_cons_succ] at c0 c1 c2
  clear b0
  go_wp2
  refine wp_region_held_drew (S := fun w' => w'.cell? ⟨w1.heap.size, 0, none⟩ = some (.string x.1) ∧ w'.cell? ⟨w1.heap.size, 1, none⟩ = some (.int .i64 x.2.1) ∧ w'.cell? ⟨w1.heap.size, 2, none⟩ = some (.string x.2.2) ∧ w'.cell? ⟨q, 1, none⟩ = some (.func (.func N) #[] #[]) ∧ w'.cell? ⟨r, 0, none⟩ = some (.string name)) (by kernel_rfl) (⟨cell_later hY c0, cell_later hY c1, cell_later hY c2, cell_later hY g1, cell_later hY g2⟩) (fun hHeld => ?_)
  refine wpAnyH_take (i := 0) (v := ?tv1) rfl (by kernel_rfl) (by kernel_rfl) (by kernel_rfl) (fun _ _ _ h => h) (Or.inl ⟨by rfl, ?hy1⟩) (by assumption) ?rs1
  case hy1 => (intro w9 hSw; (try dsimp only at hSw); go_simp; (try with_reducible rfl))
  (try simp only [Act.put, List.getElem_toArray, List.getElem_cons_zero, List.getElem_cons_succ, List.setIfInBounds_toArray, List.set_cons_zero, List.set_cons_succ])
  refine wpAnyH_take (i := 1) (v := ?tv2) rfl (by kernel_rfl) (by kernel_rfl) (by kernel_rfl) (fun _ _ _ h => h) (Or.inl ⟨by rfl, ?hy2⟩) (by assumption) ?rs2
  case hy2 => (intro w9 hSw; (try dsimp only at hSw); go_simp; (try with_reducible rfl))
  (try simp only [Act.put, List.getElem_toArray, List.getElem_cons_zero, List.getElem_cons_succ, List.setIfInBounds_toArray, List.set_cons_zero, List.set_cons_succ])
  refine wpAnyH_take (i := 2) (v := ?tv3) rfl (by kernel_rfl) (by kernel_rfl) (by kernel_rfl) (fun _ _ _ h => h) (Or.inl ⟨by rfl, ?hy3⟩) (by assumption) ?rs3
  case hy3 => (intro w9 hSw; (try dsimp only at hSw); go_simp; (try with_reducible rfl))
  (try simp only [Act.put, List.getElem_toArray, List.getElem_cons_zero, List.getElem_cons_succ, List.setIfInBounds_toArray, List.set_cons_zero, List.set_cons_succ])
  refine wpAnyH_take (i := 4) (v := ?tv4) rfl (by kernel_rfl) (by kernel_rfl) (by kernel_rfl) (fun _ _ _ h => h) (Or.inl ⟨by rfl, ?hy4⟩) (by assumption) ?rs4
  case hy4 => (intro w9 hSw; (try dsimp only at hSw); go_simp; (try with_reducible rfl))
  (try simp only [Act.put, List.getElem_toArray, List.getElem_cons_zero, List.getElem_cons_succ, List.setIfInBounds_toArray, List.set_cons_zero, List.set_cons_succ])
  refine wpAnyH_ready (rs := [3]) (by kernel_rfl) (by simp) ?_
  refine AllReadyH.cons rfl (fun K hK => ?_) AllReadyH.nil
  go_simp
  go_wp2_with (first | ((refine Calls.mono (HX.out _ hY) ?_); rintro e y ⟨rfl, hby⟩; replace hY := Below.on hY hby))
  refine hK.out _ _ (⟨cell_later hY c0, cell_later hY c1, cell_later hY c2, cell_later hY g1, cell_later hY g2⟩) (fun hHeld => ?_)
  clear hK K
  (try simp only [Act.put, List.getElem_toArray, List.getElem_cons_zero, List.getElem_cons_succ, List.setIfInBounds_toArray, List.set_cons_zero, List.set_cons_succ])
  refine wpAnyH_take (i := 5) (v := ?tv5) rfl (by kernel_rfl) (by kernel_rfl) (by kernel_rfl) (fun _ _ _ h => h) (Or.inl ⟨by rfl, ?hy5⟩) (by assumption) ?rs5
  case hy5 => (intro w9 hSw; (try dsimp only at hSw); go_simp; (try with_reducible rfl))
  (try simp only [Act.put, List.getElem_toArray, List.getElem_cons_zero, List.getElem_cons_succ, List.setIfInBounds_toArray, List.set_cons_zero, List.set_cons_succ])
  refine wpAnyH_ready (rs := [6]) (by kernel_rfl) (by simp) ?_
  refine AllReadyH.cons rfl (fun K hK => ?_) AllReadyH.nil
  go_simp
  refine hK.out _ _ (⟨cell_later hY c0, cell_later hY c1, cell_later hY c2, cell_later hY g1, cell_later hY g2⟩) (fun hHeld => ?_)
  clear hK K
  (try simp only [Act.put, List.getElem_toArray, List.getElem_cons_zero, List.getElem_cons_succ, List.setIfInBounds_toArray, List.set_cons_zero, List.set_cons_succ])
  refine wpAnyH_done (by kernel_rfl) ?_ _
  have hW := Below.trans hw (hY.mono hw.size)
  clear hY
  go_wp2
  go_ret
  exact ⟨rfl, hW⟩
set_option maxRecDepth 100000 in
set_option maxHeartbeats 1000000 in
theorem placeCol_any {l : List Co} (hlen : l.length ≤ 500) {nm : Co → ByteArray} {N C : Nat} (hN : NameZ eCol nm N) (name : ByteArray) {Q : Nat → Prop} {w : World} {ao : Option Addr} {n c : Nat} (h : RowIs eCol Q w (.slice ao n c) l) :
    Calls Try.prog 16 #[.agg #[.slice ao n c, .func (.func N) #[] #[], .func (.func C) #[] #[]], .string name] w fun en w' => en = .returned (.int .i64 (fidx (fun x => eqS (nm x) name) l)) ∧ Below w.heap.size w w' := by
  have hmf : ∀ (fn : Fn) (first cap : Array Value) (w : World), (Instr.makeFunc fn first cap).run Try.prog w = .ok (.func fn first cap) w := fun _ _ _ _ => rfl
  have hw : Below w.heap.size w ((w.alloc (.cells #[.slice ao n c, .func (.func N) #[] #[], .func (.func C) #[] #[]] 60)).alloc (.cells #[.string name] 9)) := bal (bal (Below.refl _ _) _) _
  have k1 : ((w.alloc (.cells #[.slice ao n c, .func (.func N) #[] #[], .func (.func C) #[] #[]] 60)).alloc (.cells #[.string name] 9)).cell? ⟨w.heap.size, 1, none⟩ = some (.func (.func N) #[] #[]) := cell_later (bal (Below.refl _ _) _) (cell_new w _ _ _ 1)
  have k2 : ((w.alloc (.cells #[.slice ao n c, .func (.func N) #[] #[], .func (.func C) #[] #[]] 60)).alloc (.cells #[.string name] 9)).cell? ⟨w.heap.size + 1, 0, none⟩ = some (.string name) := by
    have := cell_new (w.alloc (.cells #[.slice ao n c, .func (.func N) #[] #[], .func (.func C) #[] #[]] 60)) #[.string name] 9 (0, 0) 0
    rw [World.size_alloc] at this
    exact this
  have HC : Hid _ := hid (idxCol_any hlen (h.keep (by decide) fun b _ hl => hw.block b hl) (suchCol hN k1 k2))
  clear h hN k1 k2
  go_enter Try.func16, Try.ntmps16
  go_wp2_with fail
  refine Calls.mono HC.out ?_
  rintro e w1 ⟨rfl, hb⟩
  have hW := Below.trans hw (hb.mono hw.size)
  clear HC hb hw
  go_wp2
  go_ret
  exact ⟨rfl, hW⟩

end Go.Proofs.Ytnboooaockgoiab
/- Where a table stands. -/
namespace Go.Proofs.Ytnboooaockgoiab
open Go.RowKit
set_option linter.unusedVariables false
set_option linter.unusedSimpArgs false

set_option maxRecDepth 100000 in
set_option maxHeartbeats 2000000 in
theorem suchTbl {nm : Tbl → ByteArray} {N : Nat} (hN : NameZ eTbl nm N) {w : World} {q r : Nat} {name : ByteArray} (c1 : w.cell? ⟨q, 1, none⟩ = some (.func (.func N) #[] #[])) (c2 : w.cell? ⟨r, 0, none⟩ = some (.string name)) :
    SuchZ eTbl (fun x => eqS (nm x) name) w (.func (.func 42) #[] #[.pointer (some ⟨q, 0, none⟩), .pointer (some ⟨r, 0, none⟩)]) := by
  refine ⟨_, _, rfl, fun _ _ => rfl, fun x Q cs w1 hb h => ?_⟩
  have g1 := cell_later hb c1
  have g2 := cell_later hb c2
  clear c1 c2 hb
  obtain ⟨hcf, hN⟩ := hN
  have hs : ((nm x).toList == name.toList) = eqS (nm x) name := same_str (nm x) name
  have h' := h
  obtain ⟨ea, en, ec, ea', en', ec', rfl, er1, er2⟩ := h'
  have HX : Hid (∀ w2, Below (w1.alloc (.cells #[.string x.name, .slice ea en ec, .slice ea' en' ec'] 44)).heap.size (w1.alloc (.cells #[.string x.name, .slice ea en ec, .slice ea' en' ec'] 44)) w2 → _) := hid fun w2 hb2 => hN x Q _ w2 ((eTbl).keep (fun b _ hl => (Below.on (bal (Below.refl _ w1) _) hb2).block b hl) h)
  obtain ⟨R, hR⟩ : ∃ R, eqS (nm x) name = R := ⟨_, rfl⟩
  simp only [hR] at hs ⊢
  clear h hN hR er1 er2
  obtain ⟨D, hD⟩ : ∃ D, nm x = D := ⟨_, rfl⟩
  simp only [hD] at hs HX
  go_enter Try.func42, Try.ntmps42
  go_upto_region 1 with fail
  have b0 := Bk.new w1 (.cells #[.string x.name, .slice ea en ec, .slice ea' en' ec'] 44)
  have hw := bal (Below.refl _ w1) (.cells #[.string x.name, .slice ea en ec, .slice ea' en' ec'] 44)
  replace g1 := cell_later hw g1
  replace g2 := cell_later hw g2
  generalize w1.alloc (.cells #[.string x.name, .slice ea en ec, .slice ea' en' ec'] 44) = U at *
  have hY : Below U.heap.size U U.drew := (Below.refl _ _).drew
  have c0 := b0.cell 0
  have c1 := b0.cell 1
  have c2 := b0.cell 2
  simp only [List.getElem?_toArray, List.getElem?_cons_zero, List.getElem?_cons_succ] at c0 c1 c2
  clear b0
  go_wp2
  refine wp_region_held_drew (S := fun w' => w'.cell? ⟨w1.heap.size, 0, none⟩ = some (.string x.name) ∧ w'.cell? ⟨w1.heap.size, 1, none⟩ = some (.slice ea en ec) ∧ w'.cell? ⟨w1.heap.size, 2, none⟩ = some (.slice ea' en' ec') ∧ w'.cell? ⟨q, 1, none⟩ = some (.func (.func N) #[] #[]) ∧ w'.cell? ⟨r, 0, none⟩ = some (.string name)) (by kernel_rfl) (⟨cell_later hY c0, cell_later hY c1, cell_later hY c2, cell_later hY g1, cell_later hY g2⟩) (fun hHeld => ?_)
  refine wpAnyH_take (i := 0) (v := ?tv6) rfl (by kernel_rfl) (by kernel_rfl) (by kernel_rfl) (fun _ _ _ h => h) (Or.inl ⟨by rfl, ?hy6⟩) (by assumption) ?rs6
  case hy6 => (intro w9 hSw; (try dsimp only at hSw); go_simp; (try with_reducible rfl))
  (try simp only [Act.put, List.getElem_toArray, List.getElem_cons_zero, List.getElem_cons_succ, List.setIfInBounds_toArray, List.set_cons_zero, List.set_cons_succ])
  refine wpAnyH_take (i := 1) (v := ?tv7) rfl (by kernel_rfl) (by kernel_rfl) (by kernel_rfl) (fun _ _ _ h => h) (Or.inl ⟨by rfl, ?hy7⟩) (by assumption) ?rs7
  case hy7 => (intro w9 hSw; (try dsimp only at hSw); go_simp; (try with_reducible rfl))
  (try simp only [Act.put, List.getElem_toArray, List.getElem_cons_zero, List.getElem_cons_succ, List.setIfInBounds_toArray, List.set_cons_zero, List.set_cons_succ])
  refine wpAnyH_take (i := 2) (v := ?tv8) rfl (by kernel_rfl) (by kernel_rfl) (by kernel_rfl) (fun _ _ _ h => h) (Or.inl ⟨by rfl, ?hy8⟩) (by assumption) ?rs8
  case hy8 => (intro w9 hSw; (try dsimp only at hSw); go_simp; (try with_reducible rfl))
  (try simp only [Act.put, List.getElem_toArray, List.getElem_cons_zero, List.getElem_cons_succ, List.setIfInBounds_toArray, List.set_cons_zero, List.set_cons_succ])
  refine wpAnyH_take (i := 4) (v := ?tv9) rfl (by kernel_rfl) (by kernel_rfl) (by kernel_rfl) (fun _ _ _ h => h) (Or.inl ⟨by rfl, ?hy9⟩) (by assumption) ?rs9
  case hy9 => (intro w9 hSw; (try dsimp only at hSw); go_simp; (try with_reducible rfl))
  (try simp only [Act.put, List.getElem_toArray, List.getElem_cons_zero, List.getElem_cons_succ, List.setIfInBounds_toArray, List.set_cons_zero, List.set_cons_succ])
  refine wpAnyH_ready (rs := [3]) (by kernel_rfl) (by simp) ?_
  refine AllReadyH.cons rfl (fun K hK => ?_) AllReadyH.nil
  go_simp
  go_wp2_with (first | ((refine Calls.mono (HX.out _ hY) ?_); rintro e y ⟨rfl, hby⟩; replace hY := Below.on hY hby))
  refine hK.out _ _ (⟨cell_later hY c0, cell_later hY c1, cell_later hY c2, cell_later hY g1, cell_later hY g2⟩) (fun hHeld => ?_)
  clear hK K
  (try simp only [Act.put, List.getElem_toArray, List.getElem_cons_zero, List.getElem_cons_succ, List.setIfInBounds_toArray, List.set_cons_zero, List.set_cons_succ])
  refine wpAnyH_take (i := 5) (v := ?tv10) rfl (by kernel_rfl) (by kernel_rfl) (by kernel_rfl) (fun _ _ _ h => h) (Or.inl ⟨by rfl, ?hy10⟩) (by assumption) ?rs10
  case hy10 => (intro w9 hSw; (try dsimp only at hSw); go_simp; (try with_reducible rfl))
  (try simp only [Act.put, List.getElem_toArray, List.getElem_cons_zero, List.getElem_cons_succ, List.setIfInBounds_toArray, List.set_cons_zero, List.set_cons_succ])
  refine wpAnyH_ready (rs := [6]) (by kernel_rfl) (by simp) ?_
  refine AllReadyH.cons rfl (fun K hK => ?_) AllReadyH.nil
  go_simp
  refine hK.out _ _ (⟨cell_later hY c0, cell_later hY c1, cell_later hY c2, cell_later hY g1, cell_later hY g2⟩) (fun hHeld => ?_)
  clear hK K
  (try simp only [Act.put, List.getElem_toArray, List.getElem_cons_zero, List.getElem_cons_succ, List.setIfInBounds_toArray, List.set_cons_zero, List.set_cons_succ])
  refine wpAnyH_done (by kernel_rfl) ?_ _
  have hW := Below.trans hw (hY.mono hw.size)
  clear hY
  go_wp2
  go_ret
  exact ⟨rfl, hW⟩
set_option maxRecDepth 100000 in
set_option maxHeartbeats 1000000 in
theorem placeTbl_any {l : List Tbl} (hlen : l.length ≤ 500) {nm : Tbl → ByteArray} {N C : Nat} (hN : NameZ eTbl nm N) (name : ByteArray) {Q : Nat → Prop} {w : World} {ao : Option Addr} {n c : Nat} (h : RowIs eTbl Q w (.slice ao n c) l) :
    Calls Try.prog 22 #[.agg #[.slice ao n c, .func (.func N) #[] #[], .func (.func C) #[] #[]], .string name] w fun en w' => en = .returned (.int .i64 (fidx (fun x => eqS (nm x) name) l)) ∧ Below w.heap.size w w' := by
  have hmf : ∀ (fn : Fn) (first cap : Array Value) (w : World), (Instr.makeFunc fn first cap).run Try.prog w = .ok (.func fn first cap) w := fun _ _ _ _ => rfl
  have hw : Below w.heap.size w ((w.alloc (.cells #[.slice ao n c, .func (.func N) #[] #[], .func (.func C) #[] #[]] 54)).alloc (.cells #[.string name] 9)) := bal (bal (Below.refl _ _) _) _
  have k1 : ((w.alloc (.cells #[.slice ao n c, .func (.func N) #[] #[], .func (.func C) #[] #[]] 54)).alloc (.cells #[.string name] 9)).cell? ⟨w.heap.size, 1, none⟩ = some (.func (.func N) #[] #[]) := cell_later (bal (Below.refl _ _) _) (cell_new w _ _ _ 1)
  have k2 : ((w.alloc (.cells #[.slice ao n c, .func (.func N) #[] #[], .func (.func C) #[] #[]] 54)).alloc (.cells #[.string name] 9)).cell? ⟨w.heap.size + 1, 0, none⟩ = some (.string name) := by
    have := cell_new (w.alloc (.cells #[.slice ao n c, .func (.func N) #[] #[], .func (.func C) #[] #[]] 54)) #[.string name] 9 (0, 0) 0
    rw [World.size_alloc] at this
    exact this
  have HC : Hid _ := hid (idxTbl_any hlen (h.keep (by decide) fun b _ hl => hw.block b hl) (suchTbl hN k1 k2))
  clear h hN k1 k2
  go_enter Try.func22, Try.ntmps22
  go_wp2_with fail
  refine Calls.mono HC.out ?_
  rintro e w1 ⟨rfl, hb⟩
  have hW := Below.trans hw (hb.mono hw.size)
  clear HC hb hw
  go_wp2
  go_ret
  exact ⟨rfl, hW⟩

end Go.Proofs.Ytnboooaockgoiab
/- Where a view stands. -/
namespace Go.Proofs.Ytnboooaockgoiab
open Go.RowKit
set_option linter.unusedVariables false
set_option linter.unusedSimpArgs false

set_option maxRecDepth 100000 in
set_option maxHeartbeats 2000000 in
theorem suchVw {nm : Vw → ByteArray} {N : Nat} (hN : NameZ eVw nm N) {w : World} {q r : Nat} {name : ByteArray} (c1 : w.cell? ⟨q, 1, none⟩ = some (.func (.func N) #[] #[])) (c2 : w.cell? ⟨r, 0, none⟩ = some (.string name)) :
    SuchZ eVw (fun x => eqS (nm x) name) w (.func (.func 68) #[] #[.pointer (some ⟨q, 0, none⟩), .pointer (some ⟨r, 0, none⟩)]) := by
  refine ⟨_, _, rfl, fun _ _ => rfl, fun x Q cs w1 hb h => ?_⟩
  have g1 := cell_later hb c1
  have g2 := cell_later hb c2
  clear c1 c2 hb
  obtain ⟨hcf, hN⟩ := hN
  have hs : ((nm x).toList == name.toList) = eqS (nm x) name := same_str (nm x) name
  have h' := h
  obtain ⟨ea, en, ec, ⟨ek, etb, enm, ⟨eco1, eco2, eco3⟩, ⟨eta1, eta2, eta3⟩, ⟨eva1, eva2, eva3⟩, ⟨eit1, eit2, eit3⟩, ejn, ⟨eon1, eon2, eon3⟩, ⟨ewh1, ewh2, ewh3⟩, ⟨eod1, eod2, eod3⟩, eds, ⟨ein1, ein2, ein3⟩⟩, rfl, er1, er2, er3⟩ := h'
  unfold svC
  dsimp only
  have HX : Hid (∀ w2, Below (w1.alloc (.cells #[.string x.name, .slice ea en ec, .int .i64 ek, .string etb, .string enm, .slice eco1 eco2 eco3, .slice eta1 eta2 eta3, .slice eva1 eva2 eva3, .slice eit1 eit2 eit3, .string ejn, .slice eon1 eon2 eon3, .slice ewh1 ewh2 ewh3, .slice eod1 eod2 eod3, .bool eds, .slice ein1 ein2 ein3] 68)).heap.size (w1.alloc (.cells #[.string x.name, .slice ea en ec, .int .i64 ek, .string etb, .string enm, .slice eco1 eco2 eco3, .slice eta1 eta2 eta3, .slice eva1 eva2 eva3, .slice eit1 eit2 eit3, .string ejn, .slice eon1 eon2 eon3, .slice ewh1 ewh2 ewh3, .slice eod1 eod2 eod3, .bool eds, .slice ein1 ein2 ein3] 68)) w2 → _) := hid fun w2 hb2 => hN x Q _ w2 ((eVw).keep (fun b _ hl => (Below.on (bal (Below.refl _ w1) _) hb2).block b hl) h)
  obtain ⟨R, hR⟩ : ∃ R, eqS (nm x) name = R := ⟨_, rfl⟩
  simp only [hR] at hs ⊢
  clear h hN hR er1 er2 er3
  obtain ⟨D, hD⟩ : ∃ D, nm x = D := ⟨_, rfl⟩
  simp only [hD] at hs HX
  go_enter Try.func68, Try.ntmps68
  go_upto_region 1 with fail
  have b0 := Bk.new w1 (.cells #[.string x.name, .slice ea en ec, .int .i64 ek, .string etb, .string enm, .slice eco1 eco2 eco3, .slice eta1 eta2 eta3, .slice eva1 eva2 eva3, .slice eit1 eit2 eit3, .string ejn, .slice eon1 eon2 eon3, .slice ewh1 ewh2 ewh3, .slice eod1 eod2 eod3, .bool eds, .slice ein1 ein2 ein3] 68)
  have hw := bal (Below.refl _ w1) (.cells #[.string x.name, .slice ea en ec, .int .i64 ek, .string etb, .string enm, .slice eco1 eco2 eco3, .slice eta1 eta2 eta3, .slice eva1 eva2 eva3, .slice eit1 eit2 eit3, .string ejn, .slice eon1 eon2 eon3, .slice ewh1 ewh2 ewh3, .slice eod1 eod2 eod3, .bool eds, .slice ein1 ein2 ein3] 68)
  replace g1 := cell_later hw g1
  replace g2 := cell_later hw g2
  generalize w1.alloc (.cells #[.string x.name, .slice ea en ec, .int .i64 ek, .string etb, .string enm, .slice eco1 eco2 eco3, .slice eta1 eta2 eta3, .slice eva1 eva2 eva3, .slice eit1 eit2 eit3, .string ejn, .slice eon1 eon2 eon3, .slice ewh1 ewh2 ewh3, .slice eod1 eod2 eod3, .bool eds, .slice ein1 ein2 ein3] 68) = U at *
  have hY : Below U.heap.size U U.drew := (Below.refl _ _).drew
  have c0 := b0.cell 0
  have c1 := b0.cell 1
  have c2 := b0.cell 2
  have c3 := b0.cell 3
  have c4 := b0.cell 4
  have c5 := b0.cell 5
  have c6 := b0.cell 6
  have c7 := b0.cell 7
  have c8 := b0.cell 8
  have c9 := b0.cell 9
  have c10 := b0.cell 10
  have c11 := b0.cell 11
  have c12 := b0.cell 12
  have c13 := b0.cell 13
  have c14 := b0.cell 14
  simp only [List.getElem?_toArray, List.getElem?_cons_zero, List.getElem?_cons_succ] at c0 c1 c2 c3 c4 c5 c6 c7 c8 c9 c10 c11 c12 c13 c14
  clear b0
  go_wp2
  refine wp_region_held_drew (S := fun w' => w'.cell? ⟨w1.heap.size, 0, none⟩ = some (.string x.name) ∧ w'.cell? ⟨w1.heap.size, 1, none⟩ = some (.slice ea en ec) ∧ w'.cell? ⟨w1.heap.size, 2, none⟩ = some (.int .i64 ek) ∧ w'.cell? ⟨w1.heap.size, 3, none⟩ = some (.string etb) ∧ w'.cell? ⟨w1.heap.size, 4, none⟩ = some (.string enm) ∧ w'.cell? ⟨w1.heap.size, 5, none⟩ = some (.slice eco1 eco2 eco3) ∧ w'.cell? ⟨w1.heap.size, 6, none⟩ = some (.slice eta1 eta2 eta3) ∧ w'.cell? ⟨w1.heap.size, 7, none⟩ = some (.slice eva1 eva2 eva3) ∧ w'.cell? ⟨w1.heap.size, 8, none⟩ = some (.slice eit1 eit2 eit3) ∧ w'.cell? ⟨w1.heap.size, 9, none⟩ = some (.string ejn) ∧ w'.cell? ⟨w1.heap.size, 10, none⟩ = some (.slice eon1 eon2 eon3) ∧ w'.cell? ⟨w1.heap.size, 11, none⟩ = some (.slice ewh1 ewh2 ewh3) ∧ w'.cell? ⟨w1.heap.size, 12, none⟩ = some (.slice eod1 eod2 eod3) ∧ w'.cell? ⟨w1.heap.size, 13, none⟩ = some (.bool eds) ∧ w'.cell? ⟨w1.heap.size, 14, none⟩ = some (.slice ein1 ein2 ein3) ∧ w'.cell? ⟨q, 1, none⟩ = some (.func (.func N) #[] #[]) ∧ w'.cell? ⟨r, 0, none⟩ = some (.string name)) (by kernel_rfl) (⟨cell_later hY c0, cell_later hY c1, cell_later hY c2, cell_later hY c3, cell_later hY c4, cell_later hY c5, cell_later hY c6, cell_later hY c7, cell_later hY c8, cell_later hY c9, cell_later hY c10, cell_later hY c11, cell_later hY c12, cell_later hY c13, cell_later hY c14, cell_later hY g1, cell_later hY g2⟩) (fun hHeld => ?_)
  refine wpAnyH_take (i := 0) (v := ?tv11) rfl (by kernel_rfl) (by kernel_rfl) (by kernel_rfl) (fun _ _ _ h => h) (Or.inl ⟨by rfl, ?hy11⟩) (by assumption) ?rs11
  case hy11 => (intro w9 hSw; (try dsimp only at hSw); go_simp; (try with_reducible rfl))
  (try simp only [Act.put, List.getElem_toArray, List.getElem_cons_zero, List.getElem_cons_succ, List.setIfInBounds_toArray, List.set_cons_zero, List.set_cons_succ])
  refine wpAnyH_take (i := 1) (v := ?tv12) rfl (by kernel_rfl) (by kernel_rfl) (by kernel_rfl) (fun _ _ _ h => h) (Or.inl ⟨by rfl, ?hy12⟩) (by assumption) ?rs12
  case hy12 => (intro w9 hSw; (try dsimp only at hSw); go_simp; (try with_reducible rfl))
  (try simp only [Act.put, List.getElem_toArray, List.getElem_cons_zero, List.getElem_cons_succ, List.setIfInBounds_toArray, List.set_cons_zero, List.set_cons_succ])
  refine wpAnyH_take (i := 2) (v := ?tv13) rfl (by kernel_rfl) (by kernel_rfl) (by kernel_rfl) (fun _ _ _ h => h) (Or.inl ⟨by rfl, ?hy13⟩) (by assumption) ?rs13
  case hy13 => (intro w9 hSw; (try dsimp only at hSw); go_simp; (try with_reducible rfl))
  (try simp only [Act.put, List.getElem_toArray, List.getElem_cons_zero, List.getElem_cons_succ, List.setIfInBounds_toArray, List.set_cons_zero, List.set_cons_succ])
  refine wpAnyH_take (i := 4) (v := ?tv14) rfl (by kernel_rfl) (by kernel_rfl) (by kernel_rfl) (fun _ _ _ h => h) (Or.inl ⟨by rfl, ?hy14⟩) (by assumption) ?rs14
  case hy14 => (intro w9 hSw; (try dsimp only at hSw); go_simp; (try with_reducible rfl))
  (try simp only [Act.put, List.getElem_toArray, List.getElem_cons_zero, List.getElem_cons_succ, List.setIfInBounds_toArray, List.set_cons_zero, List.set_cons_succ])
  refine wpAnyH_ready (rs := [3]) (by kernel_rfl) (by simp) ?_
  refine AllReadyH.cons rfl (fun K hK => ?_) AllReadyH.nil
  go_simp
  go_wp2_with (first | ((refine Calls.mono (HX.out _ hY) ?_); rintro e y ⟨rfl, hby⟩; replace hY := Below.on hY hby))
  refine hK.out _ _ (⟨cell_later hY c0, cell_later hY c1, cell_later hY c2, cell_later hY c3, cell_later hY c4, cell_later hY c5, cell_later hY c6, cell_later hY c7, cell_later hY c8, cell_later hY c9, cell_later hY c10, cell_later hY c11, cell_later hY c12, cell_later hY c13, cell_later hY c14, cell_later hY g1, cell_later hY g2⟩) (fun hHeld => ?_)
  clear hK K
  (try simp only [Act.put, List.getElem_toArray, List.getElem_cons_zero, List.getElem_cons_succ, List.setIfInBounds_toArray, List.set_cons_zero, List.set_cons_succ])
  refine wpAnyH_take (i := 5) (v := ?tv15) rfl (by kernel_rfl) (by kernel_rfl) (by kernel_rfl) (fun _ _ _ h => h) (Or.inl ⟨by rfl, ?hy15⟩) (by assumption) ?rs15
  case hy15 => (intro w9 hSw; (try dsimp only at hSw); go_simp; (try with_reducible rfl))
  (try simp only [Act.put, List.getElem_toArray, List.getElem_cons_zero, List.getElem_cons_succ, List.setIfInBounds_toArray, List.set_cons_zero, List.set_cons_succ])
  refine wpAnyH_ready (rs := [6]) (by kernel_rfl) (by simp) ?_
  refine AllReadyH.cons rfl (fun K hK => ?_) AllReadyH.nil
  go_simp
  refine hK.out _ _ (⟨cell_later hY c0, cell_later hY c1, cell_later hY c2, cell_later hY c3, cell_later hY c4, cell_later hY c5, cell_later hY c6, cell_later hY c7, cell_later hY c8, cell_later hY c9, cell_later hY c10, cell_later hY c11, cell_later hY c12, cell_later hY c13, cell_later hY c14, cell_later hY g1, cell_later hY g2⟩) (fun hHeld => ?_)
  clear hK K
  (try simp only [Act.put, List.getElem_toArray, List.getElem_cons_zero, List.getElem_cons_succ, List.setIfInBounds_toArray, List.set_cons_zero, List.set_cons_succ])
  refine wpAnyH_done (by kernel_rfl) ?_ _
  have hW := Below.trans hw (hY.mono hw.size)
  clear hY
  go_wp2
  go_ret
  exact ⟨rfl, hW⟩
set_option maxRecDepth 100000 in
set_option maxHeartbeats 1000000 in
theorem placeVw_any {l : List Vw} (hlen : l.length ≤ 500) {nm : Vw → ByteArray} {N C : Nat} (hN : NameZ eVw nm N) (name : ByteArray) {Q : Nat → Prop} {w : World} {ao : Option Addr} {n c : Nat} (h : RowIs eVw Q w (.slice ao n c) l) :
    Calls Try.prog 60 #[.agg #[.slice ao n c, .func (.func N) #[] #[], .func (.func C) #[] #[]], .string name] w fun en w' => en = .returned (.int .i64 (fidx (fun x => eqS (nm x) name) l)) ∧ Below w.heap.size w w' := by
  have hmf : ∀ (fn : Fn) (first cap : Array Value) (w : World), (Instr.makeFunc fn first cap).run Try.prog w = .ok (.func fn first cap) w := fun _ _ _ _ => rfl
  have hw : Below w.heap.size w ((w.alloc (.cells #[.slice ao n c, .func (.func N) #[] #[], .func (.func C) #[] #[]] 78)).alloc (.cells #[.string name] 9)) := bal (bal (Below.refl _ _) _) _
  have k1 : ((w.alloc (.cells #[.slice ao n c, .func (.func N) #[] #[], .func (.func C) #[] #[]] 78)).alloc (.cells #[.string name] 9)).cell? ⟨w.heap.size, 1, none⟩ = some (.func (.func N) #[] #[]) := cell_later (bal (Below.refl _ _) _) (cell_new w _ _ _ 1)
  have k2 : ((w.alloc (.cells #[.slice ao n c, .func (.func N) #[] #[], .func (.func C) #[] #[]] 78)).alloc (.cells #[.string name] 9)).cell? ⟨w.heap.size + 1, 0, none⟩ = some (.string name) := by
    have := cell_new (w.alloc (.cells #[.slice ao n c, .func (.func N) #[] #[], .func (.func C) #[] #[]] 78)) #[.string name] 9 (0, 0) 0
    rw [World.size_alloc] at this
    exact this
  have HC : Hid _ := hid (idxVw_any hlen (h.keep (by decide) fun b _ hl => hw.block b hl) (suchVw hN k1 k2))
  clear h hN k1 k2
  go_enter Try.func60, Try.ntmps60
  go_wp2_with fail
  refine Calls.mono HC.out ?_
  rintro e w1 ⟨rfl, hb⟩
  have hW := Below.trans hw (hb.mono hw.size)
  clear HC hb hw
  go_wp2
  go_ret
  exact ⟨rfl, hW⟩

end Go.Proofs.Ytnboooaockgoiab
/- What is asked of columns and tables. -/
namespace Go.Proofs.Ytnboooaockgoiab
open Go.RowKit
set_option linter.unusedVariables false
set_option linter.unusedSimpArgs false

theorem fidx_any {α : Type} (p : α → Bool) (l : List α) : decide (0 ≤ fidx p l) = l.any p := by
  rw [fidx]
  by_cases h : l.findIdx p < l.length
  · rw [if_pos h]
    have : l.any p = true := List.any_eq_true.2 ⟨_, List.getElem_mem h, List.findIdx_getElem⟩
    rw [this]
    simp
  · rw [if_neg h]
    have : l.any p = false := by
      rw [List.any_eq_false]
      intro x hx hp
      exact h (List.findIdx_lt_length_of_exists ⟨x, hx, by simpa using hp⟩)
    rw [this]
    decide
/-- Has a column a Ref? -/
def hasRefP (c : Co) : Bool := !(eqS c.2.2 ⟨#[]⟩)
def mayRefP (S : List Tbl) (ahead : List Co) (c : Co) : Int :=
  if ahead = [] then 14 else if ahead.any hasRefP = true then 14 else
  match S[(fidx (fun t => eqS t.name c.2.2) S).toNat]? with
  | none => 9
  | some t => if fidx (fun t => eqS t.name c.2.2) S < 0 then 9 else match t.cols with
    | [] => 11
    | c0 :: _ => if c0.2.1 = c.2.1 then 0 else 11
def mayColP (S : List Tbl) (ahead : List Co) (c : Co) : Int :=
  if ahead.any (fun x => eqS x.1 c.1) = true then 12 else if c.2.1 ≠ 1 ∧ c.2.1 ≠ 2 then 11 else if hasRefP c = true then mayRefP S ahead c else 0
def colsE (S : List Tbl) : List Co → List Co → Int
  | _, [] => 0
  | ahead, c :: r => if mayColP S ahead c = 0 then colsE S (ahead ++ [c]) r else mayColP S ahead c
def mayTblP (S : List Tbl) (name : ByteArray) (cols : List Co) : Int :=
  if S.any (fun t => eqS t.name name) = true then 12 else if 8 ≤ S.length then 25 else if cols.length = 0 ∨ 6 < cols.length then 7 else colsE S [] cols

theorem tables_any (ta : Option Addr) (tn tc : Nat) (vb : Option Addr) (vm vd : Nat) (w : World) : Calls Try.prog 13 #[.agg #[.slice ta tn tc, .slice vb vm vd]] w fun e w' => e = .returned (.agg #[.slice ta tn tc, .func (.func 31) #[] #[], .func (.func 28) #[] #[]]) ∧ Below w.heap.size w w' := by
  have hsf : ∀ (w : World) (a : Addr) (f : Fn) (x y : Array Value) (m : Mode), (store a (.func f x y) m).run Try.prog w = stored Try.prog w a (.func f x y) m := fun w a f x y m => run_store Try.prog w a _ m rfl
  go_enter Try.func13, Try.ntmps13
  go_wp2
  refine bodyPost_ret (v := .agg #[.slice ta tn tc, .func (.func 31) #[] #[], .func (.func 28) #[] #[]]) (by simp [results, Try.results13, go_sem]) rfl ⟨rfl, bal (bal (Below.refl _ _) _) _⟩

theorem views_any (ta : Option Addr) (tn tc : Nat) (vb : Option Addr) (vm vd : Nat) (w : World) : Calls Try.prog 29 #[.agg #[.slice ta tn tc, .slice vb vm vd]] w fun e w' => e = .returned (.agg #[.slice vb vm vd, .func (.func 50) #[] #[], .func (.func 21) #[] #[]]) ∧ Below w.heap.size w w' := by
  have hsf : ∀ (w : World) (a : Addr) (f : Fn) (x y : Array Value) (m : Mode), (store a (.func f x y) m).run Try.prog w = stored Try.prog w a (.func f x y) m := fun w a f x y m => run_store Try.prog w a _ m rfl
  go_enter Try.func29, Try.ntmps29
  go_wp2
  refine bodyPost_ret (v := .agg #[.slice vb vm vd, .func (.func 50) #[] #[], .func (.func 21) #[] #[]]) (by simp [results, Try.results29, go_sem]) rfl ⟨rfl, bal (bal (Below.refl _ _) _) _⟩

theorem columns_any (a : Option Addr) (n k : Nat) (w : World) : Calls Try.prog 15 #[.slice a n k] w fun e w' => e = .returned (.agg #[.slice a n k, .func (.func 32) #[] #[], .func (.func 33) #[] #[]]) ∧ Below w.heap.size w w' := by
  have hsf : ∀ (w : World) (a : Addr) (f : Fn) (x y : Array Value) (m : Mode), (store a (.func f x y) m).run Try.prog w = stored Try.prog w a (.func f x y) m := fun w a f x y m => run_store Try.prog w a _ m rfl
  go_enter Try.func15, Try.ntmps15
  go_wp2
  refine bodyPost_ret (v := .agg #[.slice a n k, .func (.func 32) #[] #[], .func (.func 33) #[] #[]]) (by simp [results, Try.results15, go_sem]) rfl ⟨rfl, bal (Below.refl _ _) _⟩

set_option maxRecDepth 100000 in
theorem hasCol_any {l : List Co} (hlen : l.length ≤ 500) {nm : Co → ByteArray} {N C : Nat} (hN : NameZ eCol nm N) (name : ByteArray) {Q : Nat → Prop} {w : World} {ao : Option Addr} {n c : Nat} (h : RowIs eCol Q w (.slice ao n c) l) :
    Calls Try.prog 51 #[.agg #[.slice ao n c, .func (.func N) #[] #[], .func (.func C) #[] #[]], .string name] w fun en w' => en = .returned (.bool (l.any fun x => eqS (nm x) name)) ∧ Below w.heap.size w w' := by
  have hb0 := bal (Below.refl _ w) (.cells #[.slice ao n c, .func (.func N) #[] #[], .func (.func C) #[] #[]] 60)
  have HP := placeCol_any hlen hN name (C := C) (h.keep (by decide) fun b _ hl => hb0.block b hl)
  have hf := fidx_any (fun x => eqS (nm x) name) l
  generalize fidx (fun x => eqS (nm x) name) l = R at *
  generalize (l.any fun x => eqS (nm x) name) = B at *
  replace HP : Hid _ := hid HP
  clear h hN
  go_enter Try.func51, Try.ntmps51
  go_wp2_with fail
  refine Calls.mono HP.out ?_
  rintro e w1 ⟨rfl, hb⟩
  have hW := Below.trans hb0 (hb.mono hb0.size)
  clear HP hb hb0
  go_wp2
  go_ret
  exact ⟨by first | rfl | (rw [← hf]), hW⟩

set_option maxRecDepth 100000 in
theorem hasTbl_any {l : List Tbl} (hlen : l.length ≤ 500) {nm : Tbl → ByteArray} {N C : Nat} (hN : NameZ eTbl nm N) (name : ByteArray) {Q : Nat → Prop} {w : World} {ao : Option Addr} {n c : Nat} (h : RowIs eTbl Q w (.slice ao n c) l) :
    Calls Try.prog 37 #[.agg #[.slice ao n c, .func (.func N) #[] #[], .func (.func C) #[] #[]], .string name] w fun en w' => en = .returned (.bool (l.any fun x => eqS (nm x) name)) ∧ Below w.heap.size w w' := by
  have hb0 := bal (Below.refl _ w) (.cells #[.slice ao n c, .func (.func N) #[] #[], .func (.func C) #[] #[]] 54)
  have HP := placeTbl_any hlen hN name (C := C) (h.keep (by decide) fun b _ hl => hb0.block b hl)
  have hf := fidx_any (fun x => eqS (nm x) name) l
  generalize fidx (fun x => eqS (nm x) name) l = R at *
  generalize (l.any fun x => eqS (nm x) name) = B at *
  replace HP : Hid _ := hid HP
  clear h hN
  go_enter Try.func37, Try.ntmps37
  go_wp2_with fail
  refine Calls.mono HP.out ?_
  rintro e w1 ⟨rfl, hb⟩
  have hW := Below.trans hb0 (hb.mono hb0.size)
  clear HP hb hb0
  go_wp2
  go_ret
  exact ⟨by first | rfl | (rw [← hf]), hW⟩

set_option maxRecDepth 100000 in
theorem hasVw_any {l : List Vw} (hlen : l.length ≤ 500) {nm : Vw → ByteArray} {N C : Nat} (hN : NameZ eVw nm N) (name : ByteArray) {Q : Nat → Prop} {w : World} {ao : Option Addr} {n c : Nat} (h : RowIs eVw Q w (.slice ao n c) l) :
    Calls Try.prog 44 #[.agg #[.slice ao n c, .func (.func N) #[] #[], .func (.func C) #[] #[]], .string name] w fun en w' => en = .returned (.bool (l.any fun x => eqS (nm x) name)) ∧ Below w.heap.size w w' := by
  have hb0 := bal (Below.refl _ w) (.cells #[.slice ao n c, .func (.func N) #[] #[], .func (.func C) #[] #[]] 78)
  have HP := placeVw_any hlen hN name (C := C) (h.keep (by decide) fun b _ hl => hb0.block b hl)
  have hf := fidx_any (fun x => eqS (nm x) name) l
  generalize fidx (fun x => eqS (nm x) name) l = R at *
  generalize (l.any fun x => eqS (nm x) name) = B at *
  replace HP : Hid _ := hid HP
  clear h hN
  go_enter Try.func44, Try.ntmps44
  go_wp2_with fail
  refine Calls.mono HP.out ?_
  rintro e w1 ⟨rfl, hb⟩
  have hW := Below.trans hb0 (hb.mono hb0.size)
  clear HP hb hb0
  go_wp2
  go_ret
  exact ⟨by first | rfl | (rw [← hf]), hW⟩

set_option maxRecDepth 100000 in
theorem hasRef_any (c : Co) (w : World) : Calls Try.prog 52 #[.agg #[.string c.1, .int .i64 c.2.1, .string c.2.2]] w fun e w' => e = .returned (.bool (hasRefP c)) ∧ Below w.heap.size w w' := by
  have hs : (c.2.2.toList == (⟨#[]⟩ : ByteArray).toList) = eqS c.2.2 ⟨#[]⟩ := same_str c.2.2 ⟨#[]⟩
  have e0 : (⟨#[]⟩ : ByteArray).toList = [] := by rw [ByteArray.toList_eq]
  have hi : c.2.2.toList.isEmpty = eqS c.2.2 ⟨#[]⟩ := by
    rw [e0] at hs
    rw [← hs]
    cases c.2.2.toList <;> rfl
  unfold hasRefP
  generalize eqS c.2.2 ⟨#[]⟩ = B at *
  go_enter Try.func52, Try.ntmps52
  go_wp2
  go_ret
  exact ⟨by first | rfl | simp_all, bal (Below.refl _ _) _⟩
theorem hasRef_such (w : World) : SuchZ eCol hasRefP w (.func (.func 52) #[] #[]) := by
  refine ⟨_, _, rfl, fun _ _ => rfl, fun x Q cs w1 hb h => ?_⟩
  obtain rfl : cs = [.string x.1, .int .i64 x.2.1, .string x.2.2] := h
  exact hasRef_any x w1
set_option maxRecDepth 100000 in
theorem contains_any {l : List Co} {p : Co → Bool} (hlen : l.length ≤ 500) {Q : Nat → Prop} {w : World} {ao : Option Addr} {n c : Nat} (h : RowIs eCol Q w (.slice ao n c) l) {N : Nat} {caps : Array Value} (hv : SuchZ eCol p w (.func (.func N) #[] caps)) :
    Calls Try.prog 66 #[.slice ao n c, .func (.func N) #[] caps] w fun en w' => en = .returned (.bool (l.any p)) ∧ Below w.heap.size w w' := by
  have HP := idxCol_any hlen h hv
  have hf := fidx_any p l
  generalize fidx p l = R at *
  generalize l.any p = B at *
  replace HP : Hid _ := hid HP
  clear h hv
  go_enter Try.func66, Try.ntmps66
  go_wp2_with fail
  refine Calls.mono HP.out ?_
  rintro e w1 ⟨rfl, hb⟩
  clear HP
  go_wp2
  go_ret
  exact ⟨by first | rfl | (rw [← hf]), hb⟩
set_option maxRecDepth 100000 in
theorem column_any {l : List Co} (hlen : l.length ≤ 500) (nm name : ByteArray) {Q : Nat → Prop} {w : World} {a : Option Addr} {n k : Nat} (h : RowIs eCol Q w (.slice a n k) l) (a' : Option Addr) (n' k' : Nat) :
    Calls Try.prog 8 #[.agg #[.string nm, .slice a n k, .slice a' n' k'], .string name] w fun en w' => en = .returned (.int .i64 (fidx (fun c => eqS c.1 name) l)) ∧ Below w.heap.size w w' := by
  have HR : Hid (∀ w', Below w.heap.size w w' → RowIs eCol Q w' (.slice a n k) l) := hid fun w' hb => h.keep (by decide) fun b _ hl => hb.block b hl
  have H1 : Hid (∀ w, _) := hid fun w => columns_any a n k w
  have H2 : Hid (∀ w', Below w.heap.size w w' → _) := hid fun w' hb => placeCol_any hlen name_col name (C := 33) (HR.out w' hb)
  generalize fidx (fun c => eqS c.1 name) l = R at *
  clear h
  have hB := bal (Below.refl _ w) (.cells #[.string nm, .slice a n k, .slice a' n' k'] 44)
  go_enter Try.func8, Try.ntmps8
  go_wp2_with fail
  refine Calls.mono (H1.out _) ?_
  rintro e w1 ⟨rfl, hb⟩
  replace hB := Below.trans hB (hb.mono hB.size)
  go_wp2_with fail
  refine Calls.mono (H2.out _ hB) ?_
  rintro e w2 ⟨rfl, hb2⟩
  replace hB := Below.trans hB (hb2.mono hB.size)
  clear H1 H2 HR hb hb2
  go_wp2
  go_ret
  exact ⟨rfl, hB⟩

end Go.Proofs.Ytnboooaockgoiab
/- Rows of columns copied. -/
namespace Go.Proofs.Ytnboooaockgoiab
open Go.RowKit
set_option linter.unusedVariables false
set_option linter.unusedSimpArgs false

theorem Try.infoZCol : (Try.prog.info? 36).map (fun i => (i.zero, i.size, i.bytes)) = some (some (.agg #[.string ⟨#[]⟩, .int .i64 0, .string ⟨#[]⟩]), 3, 40) := by kernel_rfl
set_option maxRecDepth 100000 in
set_option maxHeartbeats 4000000 in
theorem copiesCol_own {l : List Co} (hcp : ∀ x ∈ l, Cp eCol 33 x) (hlen : l.length ≤ 500) {Q : Nat → Prop} {w : World} {ao : Option Addr} {n c : Nat} (h : RowIs eCol Q w (.slice ao n c) l) :
    Calls Try.prog 48 #[.slice ao n c, .func (.func 33) #[] #[]] w (TeO eCol 36 w l) := by
  have HC : Hid (∀ x ∈ l, Cp eCol 33 x) := hid hcp
  have HR : Hid (∀ w', Below w.heap.size w w' → RowIs eCol Q w' (.slice ao n c) l) := hid fun w' hb => h.keep (by decide) fun b _ hl => hb.block b hl
  obtain ⟨ao', n', c', e', hn, hnc, hc, _⟩ := h
  cases e'
  subst hn
  clear hcp
  go_enter Try.func48, Try.ntmps48
  go_wp2
  go_loopw [5, 10] (fun v5 v10 wr => ∃ (k : Nat) (css : List (List Value)), k ≤ l.length ∧ v10 = .int .i64 k ∧ Below w.heap.size w wr ∧ OwnR 36 3 w.heap.size wr v5 css ∧ css.length = k ∧ Hid (∀ i (h1 : i < l.length) (h2 : i < css.length), (eCol).E (fun b => w.heap.size ≤ b ∧ some b ≠ v5.ownBlock) wr l[i] css[i])) (fun _ i _ => l.length - (intOf i).toNat)
  case atStart => exact ⟨0, [], Nat.zero_le _, rfl, Below.refl _ _, OwnR.nil _ _ _ _, rfl, hid fun i h1 h2 => by simp at h2⟩
  case round =>
    obtain ⟨k, css, hk, rfl, hB, ho, hcl, HE⟩ := hrel
    by_cases hlt : k < l.length
    · have hcl' : css.length ≤ 500 := by omega
      obtain ⟨_, _, _, e', _, _, _, hx⟩ := HR.out wr hB
      cases e'
      obtain ⟨b, o, rfl, hq, hi⟩ := hx (by omega)
      obtain ⟨cs, hEx, h2, h3⟩ := hi k hlt
      obtain ⟨x, hxl, hxm⟩ : ∃ x, l[k] = x ∧ x ∈ l := ⟨_, rfl, List.getElem_mem hlt⟩
      rw [hxl] at hEx
      have hEx' := hEx
      obtain rfl := hEx'
      have c0 : wr.cell? ⟨b, o + k * 3, none⟩ = some (.string x.1) := h3 0 (show 0 < 3 by decide)
      have c1 : wr.cell? ⟨b, o + k * 3 + 1, none⟩ = some (.int .i64 x.2.1) := h3 1 (show 1 < 3 by decide)
      have c2 : wr.cell? ⟨b, o + k * 3 + 2, none⟩ = some (.string x.2.2) := h3 2 (show 2 < 3 by decide)
      have HX : Hid _ := hid (HC.out x hxm _ _ _ ((eCol).keep (w' := wr.alloc (.cells #[.string x.1, .int .i64 x.2.1, .string x.2.2] 36)) (fun b _ hl => (bal (Below.refl _ wr) _).block b hl) hEx))
      have HXl : Hid _ := hid hxl
      have hsz := hB.size
      have hblk := ho.blk
      have Hcl : Hid _ := hid hcl
      have hkm : (k : Int) < (l.length : Int) := by omega
      clear hEx h2 h3 hi hx hxm hxl hcl
      go_wp2_with fail
      refine Calls.mono HX.out ?_
      rintro e w4 ⟨cs', rfl, hE4, hb4⟩
      have hb4' : Below wr.heap.size wr w4 := Below.on (bal (Below.refl _ wr) _) hb4
      have hB4 : Below w.heap.size w w4 := Below.trans hB (hb4'.mono hsz)
      have hE4' := hE4
      obtain rfl := hE4'
      have ho4 := ho.later hb4'
      have ho5 := ho4.alloc (.cells #[.string x.1, .int .i64 x.2.1, .string x.2.2] 36)
      have hB5 := bal hB4 (.cells #[.string x.1, .int .i64 x.2.1, .string x.2.2] 36)
      have hs4 := hb4'.size
      have HE4 : Hid (∀ i (h1 : i < l.length) (h2 : i < css.length), (eCol).E (fun b => w.heap.size ≤ b ∧ some b ≠ u5.ownBlock) (w4.alloc (.cells #[.string x.1, .int .i64 x.2.1, .string x.2.2] 36)) l[i] css[i]) := hid fun i h1 h2 => (eCol).keep (fun b _ hl => (bal (Below.refl _ w4) _).block b hl) ((eCol).keep (fun b _ hl => hb4'.block b hl) (HE.out i h1 h2))
      have HEn : Hid ((eCol).E (fun b => w.heap.size ≤ b ∧ some b ≠ u5.ownBlock) (w4.alloc (.cells #[.string x.1, .int .i64 x.2.1, .string x.2.2] 36)) x [.string x.1, .int .i64 x.2.1, .string x.2.2]) := hid ((eCol).keep (fun b _ hl => (bal (Below.refl _ w4) _).block b hl) ((eCol).mono (fun b hq _ => ⟨by have hq' : (wr.alloc (.cells #[.string x.1, .int .i64 x.2.1, .string x.2.2] 36)).heap.size ≤ b := hq; rw [World.size_alloc] at hq'; omega, fun hbk => by have := (hblk b hbk.symm).2; have hq' : (wr.alloc (.cells #[.string x.1, .int .i64 x.2.1, .string x.2.2] 36)).heap.size ≤ b := hq; rw [World.size_alloc] at hq'; omega⟩) hE4))
      clear hE4 HE ho ho4 hB4 HX hb4 hb4'
      go_wp2_with (first | (at_builtin; refine wpList_appR Try.underlying28 Try.infoZCol rfl (by decide) (by decide) rfl (.tmp 14) (.tmp 18) rfl _ css w4.heap.size [.string x.1, .int .i64 x.2.1, .string x.2.2] rfl rfl ho5 rfl (by simp [Value.oneCell']) ?_ (by omega) hB5.size ?_) | fail)
      · intro j hj
        have hj' : j < 3 := hj
        match j, hj' with
        | 0, _ => exact cell_new w4 _ _ _ 0
        | 1, _ => exact cell_new w4 _ _ _ 1
        | 2, _ => exact cell_new w4 _ _ _ 2
      · intro v' w6 hO6 hg6 hown
        have hB6 := Below.grownR hB5 hB5.size hg6 fun k e => (hblk k e).1
        have HN : Hid (∀ i (h1 : i < l.length) (h2 : i < (css ++ [([.string x.1, .int .i64 x.2.1, .string x.2.2] : List Value)]).length), (eCol).E (fun b => w.heap.size ≤ b ∧ some b ≠ v'.ownBlock) w6 l[i] (css ++ [([.string x.1, .int .i64 x.2.1, .string x.2.2] : List Value)])[i]) := hid fun i h1 h2 => by
          by_cases hi : i < css.length
          · rw [List.getElem_append_left hi]
            exact (eCol).grow (HE4.out i h1 hi) hg6 (by simpa using hown)
          · rw [List.length_append, List.length_singleton] at h2
            obtain rfl : i = css.length := by omega
            rw [List.getElem_append_right (Nat.le_refl _)]
            have hx' : l[css.length] = x := by
              have := HXl.out
              have hk' := Hcl.out
              subst hk'
              exact this
            rw [hx']
            simpa using (eCol).grow HEn.out hg6 (by simpa using hown)
        clear HE4 HEn hg6 hown ho5 hB5 hblk
        go_wp2
        go_roundw
        case rel => exact ⟨k + 1, css ++ [([.string x.1, .int .i64 x.2.1, .string x.2.2] : List Value)], hlt, by go_num, hB6, hO6, by rw [List.length_append, List.length_singleton, Hcl.out], HN⟩
        case measure => simp only [intOf]; omega
    · obtain rfl : k = l.length := by omega
      obtain ⟨a5, n5, d5, rfl⟩ := ho.sl
      go_wp2
      go_ret
      exact ⟨_, _, _, css, rfl, ho, hcl, HE.out, hB⟩
theorem copiesCol_any {l : List Co} (hcp : ∀ x ∈ l, Cp eCol 33 x) (hlen : l.length ≤ 500) {Q : Nat → Prop} {w : World} {ao : Option Addr} {n c : Nat} (h : RowIs eCol Q w (.slice ao n c) l) :
    Calls Try.prog 48 #[.slice ao n c, .func (.func 33) #[] #[]] w (TeR eCol w l) := (copiesCol_own hcp hlen h).mono fun _ _ h => h.row


end Go.Proofs.Ytnboooaockgoiab
