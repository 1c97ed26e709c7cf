import Derived.Test.YtnboooaockgoiabRaj
/- Whether schema does anything yet: the walk of begun. -/
namespace Go.Proofs.Ytnboooaockgoiab
open Go.RowKit
set_option linter.unusedVariables false
set_option linter.unusedSimpArgs false

/-- A row of one column that was just built. -/
theorem row_col1 (w : World) (a : ByteArray) (k : Int) (f : ByteArray) : RowIs eCol (fun _ => True) (w.alloc (.cells #[.string a, .int .i64 k, .string f] 36)) (.slice (some ⟨w.heap.size, 0, none⟩) 1 1) [(a, k, f)] := by
  refine ⟨_, 1, 1, rfl, rfl, Nat.le_refl _, by omega, fun _ => ⟨w.heap.size, 0, rfl, trivial, fun i hi => ?_⟩⟩
  have hi' : i < 1 := hi
  obtain rfl : i = 0 := by omega
  refine ⟨_, rfl, rfl, fun j hj => ?_⟩
  rw [show 0 + 0 * eCol.k + j = j from by omega]
  exact new3 w _ _ _ _ j hj
abbrev kCol : Co := (⟨#[107]⟩, 1, ⟨#[]⟩)
abbrev tTab : Tbl := ⟨⟨#[116]⟩, [kCol], []⟩
theorem tTab_may : mayTblP [] ⟨#[116]⟩ [kCol] = 0 := by kernel_rfl
theorem tTab_look : lookT [tTab] ⟨#[116]⟩ = some tTab := by kernel_rfl
theorem tTab_k : fidx (fun c => eqS c.1 ⟨#[107]⟩) tTab.cols = 0 := by kernel_rfl
theorem tTab_q : fidx (fun c => eqS c.1 ⟨#[113]⟩) tTab.cols = -1 := by kernel_rfl
theorem tTab_B : AllB TblB [tTab] := by
  refine ⟨by simp, fun x hx => ?_⟩
  rw [List.mem_singleton] at hx
  subst hx
  refine ⟨by simp only [StrB]; decide, ⟨by simp, fun c hc => ?_⟩, ⟨by simp, fun c hc => by simp at hc⟩⟩
  rw [List.mem_singleton] at hc
  subst hc
  exact ⟨by decide, by decide⟩
theorem kCol_B (k : Int) : AllB ColB [(⟨#[107]⟩, k, ⟨#[]⟩)] := by
  refine ⟨by simp, fun c hc => ?_⟩
  rw [List.mem_singleton] at hc
  subst hc
  exact ⟨by simp only; decide, by simp only; decide⟩
/-- Add of a table into nothing. -/
theorem add0_any {nm : ByteArray} (hnB : StrB nm) (hm : mayTblP [] nm [kCol] = 0) (w : World) :
    Calls Try.prog 6 #[.agg #[.slice none 0 0, .slice none 0 0], .agg #[.int .i64 1, .string ⟨#[]⟩, .string nm, .slice (some ⟨w.heap.size, 0, none⟩) 1 1, .slice none 0 0, .slice none 0 0, .slice none 0 0, .string ⟨#[]⟩, .slice none 0 0, .slice none 0 0, .slice none 0 0, .bool false, .slice none 0 0], .slice none 0 0] (w.alloc (.cells #[.string ⟨#[107]⟩, .int .i64 1, .string ⟨#[]⟩] 36))
      (TeA (w.alloc (.cells #[.string ⟨#[107]⟩, .int .i64 1, .string ⟨#[]⟩] 36)) [⟨nm, [kCol], []⟩] [] 0) := by
  have h := addTbl_any (S := []) (V0 := []) (cols := [kCol]) ⟨by simp, by simp⟩ ⟨by simp, by simp⟩ (by simp) (kCol_B 1) (w := w.alloc (.cells #[.string ⟨#[107]⟩, .int .i64 1, .string ⟨#[]⟩] 36)) (RowIs.nil _ _ _) (RowIs.nil _ _ _) ⟨#[]⟩ hnB none 0 0 none 0 0 none 0 0 ⟨#[]⟩ none 0 0 none 0 0 none 0 0 false none 0 0 (row_col1 w ⟨#[107]⟩ 1 ⟨#[]⟩) none 0 0
  rw [hm, if_pos rfl, if_pos rfl] at h
  exact h
set_option maxRecDepth 100000 in
set_option maxHeartbeats 2000000 in
theorem begun9_any (w : World) : Calls Try.prog 5 #[] w fun e w' => e = .returned (.bool true) ∧ Below w.heap.size w w' := by
  have H1 : Hid _ := hid (add0_any (nm := ⟨#[116]⟩) (by simp only [StrB]; decide) tTab_may w)
  have hw := bal (Below.refl _ w) (.cells #[.string ⟨#[107]⟩, .int .i64 1, .string ⟨#[]⟩] 36)
  go_enter Try.func5, Try.ntmps5
  go_wp2_with fail
  refine Calls.mono H1.out ?_
  rintro e U ⟨ta, tn, tc, vb, vm, vd, rfl, r1, r2, hb⟩
  replace hw := Below.trans hw (hb.mono hw.size)
  have hU := bal (Below.refl _ U) (.cells #[.slice ta tn tc, .slice vb vm vd] 26)
  have H2 := table_any tTab_B ⟨#[116]⟩ ((RowIs.any (by decide) r1).keep (by decide) fun b _ hl => hU.block b hl) vb vm vd
  rw [tTab_look] at H2
  replace H2 : Hid _ := hid H2
  replace hw := Below.on hw hU
  clear H1 hb hU r1 r2
  go_wp2_with fail
  refine Calls.mono H2.out ?_
  rintro e U2 ⟨s, a, n, c, a', n', c', is, rfl, his, hso, hno, hb⟩
  obtain rfl : is = true := his
  obtain ⟨rfl, r1, r2⟩ := hso _ rfl
  replace hw := Below.on hw hb
  have hU := bal (Below.refl _ U2) (.cells #[.string tTab.name, .slice a n c, .slice a' n' c'] 44)
  have r3 : RowIs eCol (fun b => (U.alloc (.cells #[.slice ta tn tc, .slice vb vm vd] 26)).heap.size ≤ b) (U2.alloc (.cells #[.string tTab.name, .slice a n c, .slice a' n' c'] 44)) (.slice a n c) tTab.cols := r1.keep (by decide) fun b _ hl => hU.block b hl
  have H3 : Hid (∀ w', Below (U2.alloc (.cells #[.string tTab.name, .slice a n c, .slice a' n' c'] 44)).heap.size (U2.alloc (.cells #[.string tTab.name, .slice a n c, .slice a' n' c'] 44)) w' → _) := hid fun w' hb' => column_any (by decide) tTab.name ⟨#[107]⟩ (r3.keep (by decide) fun b _ hl => hb'.block b hl) a' n' c'
  have H4 : Hid (∀ w', Below (U2.alloc (.cells #[.string tTab.name, .slice a n c, .slice a' n' c'] 44)).heap.size (U2.alloc (.cells #[.string tTab.name, .slice a n c, .slice a' n' c'] 44)) w' → _) := hid fun w' hb' => column_any (by decide) tTab.name ⟨#[113]⟩ (r3.keep (by decide) fun b _ hl => hb'.block b hl) a' n' c'
  have H5 : Hid (∀ w', Below (U2.alloc (.cells #[.string tTab.name, .slice a n c, .slice a' n' c'] 44)).heap.size (U2.alloc (.cells #[.string tTab.name, .slice a n c, .slice a' n' c'] 44)) w' → _) := hid fun w' hb' => indexed0 (by decide) tTab.name ⟨#[107]⟩ (r3.keep (by decide) fun b _ hl => hb'.block b hl) a' n' c' tTab_k
  rw [tTab_k] at H3
  rw [tTab_q] at H4
  have k0 := cell_new U2 #[.string tTab.name, .slice a n c, .slice a' n' c'] 44 (0, 0) 0
  have k1 := cell_new U2 #[.string tTab.name, .slice a n c, .slice a' n' c'] 44 (0, 0) 1
  have k2 := cell_new U2 #[.string tTab.name, .slice a n c, .slice a' n' c'] 44 (0, 0) 2
  simp only [List.getElem?_toArray, List.getElem?_cons_zero, List.getElem?_cons_succ] at k0 k1 k2
  replace hw := Below.on hw hU
  have hn : tTab.name = ⟨#[116]⟩ := rfl
  clear H2 hb r1 r2 r3 hno hso hU
  go_upto_region 3 with fail
  generalize hV : U2.alloc (.cells #[.string tTab.name, .slice a n c, .slice a' n' c'] 44) = V at *
  have hY : Below V.heap.size V V := Below.refl _ _
  go_wp2_with fail
  refine Calls.mono (H3.out _ hY) ?_
  rintro e y ⟨rfl, hby⟩
  replace hY := Below.on hY hby
  replace k0 := cell_later hby k0
  replace k1 := cell_later hby k1
  replace k2 := cell_later hby k2
  go_wp2_with fail
  refine Calls.mono (H4.out _ hY) ?_
  rintro e y2 ⟨rfl, hby2⟩
  replace hY := Below.on hY hby2
  replace k0 := cell_later hby2 k0
  replace k1 := cell_later hby2 k1
  replace k2 := cell_later hby2 k2
  go_wp2_with fail
  refine Calls.mono (H5.out _ hY) ?_
  rintro e y3 ⟨rfl, hby3⟩
  replace hY := Below.on hY hby3
  have hW := Below.trans hw (hY.mono hw.size)
  clear H3 H4 H5 hby hby2 hby3 hY
  go_wp2
  go_ret
  exact ⟨rfl, hW⟩

end Go.Proofs.Ytnboooaockgoiab
/- SchemaRefs: what a column may refer to. -/
namespace Go.Proofs.Ytnboooaockgoiab
open Go.RowKit
set_option linter.unusedVariables false
set_option linter.unusedSimpArgs false

abbrev aTab : Tbl := ⟨⟨#[97]⟩, [kCol], []⟩
theorem aTab_may : mayTblP [] ⟨#[97]⟩ [kCol] = 0 := by kernel_rfl
theorem aTab_B : AllB TblB [aTab] := by
  refine ⟨by simp, fun x hx => ?_⟩
  rw [List.mem_singleton] at hx
  subst hx
  exact ⟨by simp only [StrB]; decide, kCol_B 1, ⟨by simp, fun c hc => by simp at hc⟩⟩
def rS (r : Nat) : ByteArray := if r = 0 then ⟨#[97]⟩ else if r = 1 then ⟨#[98]⟩ else ⟨#[99]⟩
/-- Three columns in a block of their own. -/
def Bc (w : World) (b : Nat) (f : Nat → Co) : Prop := Bk w b (.cells #[.string (f 0).1, .int .i64 (f 0).2.1, .string (f 0).2.2, .string (f 1).1, .int .i64 (f 1).2.1, .string (f 1).2.2, .string (f 2).1, .int .i64 (f 2).2.1, .string (f 2).2.2] 36 (0, 0))
def upK (f : Nat → Co) (p : Nat) (k : Int) (i : Nat) : Co := if i = p then ((f i).1, k, (f i).2.2) else f i
def upR (f : Nat → Co) (p : Nat) (s : ByteArray) (i : Nat) : Co := if i = p then ((f i).1, (f i).2.1, s) else f i
theorem Bc.later {w w' : World} {b : Nat} {f : Nat → Co} (h : Bc w b f) (hb : Below w.heap.size w w') : Bc w' b f := Bk.later h hb
theorem Bc.drew {w : World} {b : Nat} {f : Nat → Co} (h : Bc w b f) : Bc w.drew b f := by
  unfold Bc at h ⊢
  exact ⟨h.row⟩
theorem Bc.setK {w : World} {b : Nat} {f : Nat → Co} (h : Bc w b f) {p : Nat} (hp : p < 3) (k : Int) : Bc (w.setCell ⟨b, p * 3 + 1, none⟩ (.int .i64 k)) b (upK f p k) := by
  have h' : w.heap[b]? = _ := Bk.row h
  match p, hp with
  | 0, _ => exact ⟨by simp [World.setCell, Array.getElem?_modify, h', upK]⟩
  | 1, _ => exact ⟨by simp [World.setCell, Array.getElem?_modify, h', upK]⟩
  | 2, _ => exact ⟨by simp [World.setCell, Array.getElem?_modify, h', upK]⟩
theorem Bc.setR {w : World} {b : Nat} {f : Nat → Co} (h : Bc w b f) {p : Nat} (hp : p < 3) (s : ByteArray) : Bc (w.setCell ⟨b, p * 3 + 2, none⟩ (.string s)) b (upR f p s) := by
  have h' : w.heap[b]? = _ := Bk.row h
  match p, hp with
  | 0, _ => exact ⟨by simp [World.setCell, Array.getElem?_modify, h', upR]⟩
  | 1, _ => exact ⟨by simp [World.setCell, Array.getElem?_modify, h', upR]⟩
  | 2, _ => exact ⟨by simp [World.setCell, Array.getElem?_modify, h', upR]⟩
theorem Bc.k {w : World} {b : Nat} {f : Nat → Co} (h : Bc w b f) {p : Nat} (hp : p < 3) : w.cell? ⟨b, p * 3 + 1, none⟩ = some (.int .i64 (f p).2.1) ∧ w.cell? ⟨b, p * 3 + 2, none⟩ = some (.string (f p).2.2) ∧ w.frozen? ⟨b, p * 3 + 1, none⟩ = false ∧ w.frozen? ⟨b, p * 3 + 2, none⟩ = false := by
  refine ⟨?_, ?_, Bk.free h _, Bk.free h _⟩
  · rw [Bk.cell h]
    match p, hp with
    | 0, _ => rfl
    | 1, _ => rfl
    | 2, _ => rfl
  · rw [Bk.cell h]
    match p, hp with
    | 0, _ => rfl
    | 1, _ => rfl
    | 2, _ => rfl
theorem Bc.row {w : World} {b : Nat} {f : Nat → Co} (h : Bc w b f) : RowIs eCol (fun _ => True) w (.slice (some ⟨b, 0, none⟩) 3 3) [f 0, f 1, f 2] := by
  refine ⟨_, 3, 3, rfl, rfl, Nat.le_refl _, by omega, fun _ => ⟨b, 0, rfl, trivial, fun i hi => ?_⟩⟩
  have hi' : i < 3 := hi
  have h' : ∀ j, w.cell? ⟨b, j, none⟩ = _ := fun j => Bk.cell h j
  match i, hi' with
  | 0, _ =>
    refine ⟨_, rfl, rfl, fun j hj => ?_⟩
    have hj' : j < 3 := hj
    rw [h']
    match j, hj' with
    | 0, _ => rfl
    | 1, _ => rfl
    | 2, _ => rfl
  | 1, _ =>
    refine ⟨_, rfl, rfl, fun j hj => ?_⟩
    have hj' : j < 3 := hj
    rw [h']
    match j, hj' with
    | 0, _ => rfl
    | 1, _ => rfl
    | 2, _ => rfl
  | 2, _ =>
    refine ⟨_, rfl, rfl, fun j hj => ?_⟩
    have hj' : j < 3 := hj
    rw [h']
    match j, hj' with
    | 0, _ => rfl
    | 1, _ => rfl
    | 2, _ => rfl
def fB (i : Nat) : Co := if i = 0 then (⟨#[107]⟩, 2, ⟨#[]⟩) else if i = 1 then (⟨#[120]⟩, 1, ⟨#[]⟩) else (⟨#[121]⟩, 1, ⟨#[]⟩)
def fE (P K R : Nat) (two : Bool) : Nat → Co := if two && decide (P = 1) then upR (upR (upK fB P (1 + K)) P (rS R)) 2 ⟨#[97]⟩ else upR (upK fB P (1 + K)) P (rS R)
def wantZ (P K R : Nat) (two : Bool) : Int := if P = 0 then 14 else if R ≠ 0 then 9 else if K = 1 then 11 else if two && decide (P = 1) then 14 else 0
theorem refs_plain : ∀ P < 3, ∀ K < 2, ∀ R < 3, ∀ two : Bool, mayTblP [aTab] ⟨#[98]⟩ [fE P K R two 0, fE P K R two 1, fE P K R two 2] = wantZ P K R two := by decide +kernel
theorem fE_B (P K R : Nat) (two : Bool) : AllB ColB [fE P K R two 0, fE P K R two 1, fE P K R two 2] := by
  have hr : (rS R).size ≤ 500 := by unfold rS; split; (· decide); split <;> decide
  have hf : ∀ i, ColB (fB i) := by
    intro i
    unfold fB ColB
    split
    · exact ⟨by simp only; decide, by simp only; decide⟩
    · split
      · exact ⟨by simp only; decide, by simp only; decide⟩
      · exact ⟨by simp only; decide, by simp only; decide⟩
  have hu : ∀ (f : Nat → Co) p k, (∀ i, ColB (f i)) → ∀ i, ColB (upK f p k i) := by
    intro f p k h i
    unfold upK
    split
    · exact h i
    · exact h i
  have hv : ∀ (f : Nat → Co) p s, s.size ≤ 500 → (∀ i, ColB (f i)) → ∀ i, ColB (upR f p s i) := by
    intro f p s hs h i
    unfold upR
    split
    · exact ⟨(h i).1, hs⟩
    · exact h i
  have hE : ∀ i, ColB (fE P K R two i) := by
    intro i
    unfold fE
    split
    · exact hv _ _ _ (by decide) (hv _ _ _ hr (hu _ _ _ hf)) i
    · exact hv _ _ _ hr (hu _ _ _ hf) i
  refine ⟨by simp, fun c hc => ?_⟩
  simp only [List.mem_cons, List.not_mem_nil, or_false] at hc
  rcases hc with rfl | rfl | rfl <;> exact hE _

set_option maxRecDepth 100000 in
set_option maxHeartbeats 4000000 in
theorem schemaRefs_any (k r p : Nat) (hk : k ≤ 255) (hr : r ≤ 255) (hp : p ≤ 255) (two : Bool) (w : World) : Calls Try.prog 4 #[.int .u8 (k : Int), .int .u8 (r : Int), .int .u8 (p : Int), .bool two] w fun e w' => e = .returned (.bool true) ∧ Below w.heap.size w w' := by
  have H0 : Hid _ := hid (begun9_any w)
  have H1 : Hid (∀ w, _) := hid fun w => add0_any (nm := ⟨#[97]⟩) (by simp only [StrB]; decide) aTab_may w
  obtain ⟨K, hK⟩ : ∃ K, k % 2 = K := ⟨_, rfl⟩
  obtain ⟨R, hR⟩ : ∃ R, r % 3 = R := ⟨_, rfl⟩
  obtain ⟨P, hP⟩ : ∃ P, p % 3 = P := ⟨_, rfl⟩
  have hK2 : K < 2 := by omega
  have hR3 : R < 3 := by omega
  have hP3 : P < 3 := by omega
  have kt : (k : Int).tmod 2 = (K : Int) := by rw [Int.tmod_eq_emod_of_nonneg (by omega)]; omega
  have rt : (r : Int).tmod 3 = (R : Int) := by rw [Int.tmod_eq_emod_of_nonneg (by omega)]; omega
  have pt : (p : Int).tmod 3 = (P : Int) := by rw [Int.tmod_eq_emod_of_nonneg (by omega)]; omega
  go_enter Try.func4, Try.ntmps4
  go_wp2_with fail
  refine Calls.mono H0.out ?_
  rintro e U0 ⟨rfl, hw⟩
  have hw1 := bal hw (.cells #[.string ⟨#[107]⟩, .int .i64 1, .string ⟨#[]⟩] 36)
  clear H0
  go_wp2_with fail
  refine Calls.mono (H1.out U0) ?_
  rintro e U ⟨ta, tn, tc, vb, vm, vd, rfl, r1, r2, hb⟩
  replace hw := Below.trans hw1 (hb.mono hw1.size)
  have hR1 : Hid _ := hid (RowIs.any (by decide) r1)
  have hR2 : Hid _ := hid (RowIs.any (by decide) r2)
  clear H1 hb r1 r2 hw1
  go_upto_region 7 with fail
  have bs0 := Bk.new U (.cells #[.slice ta tn tc, .slice vb vm vd] 26)
  have bc0 : Bk _ _ (.cells #[.string ⟨#[107]⟩, .int .i64 2, .string ⟨#[]⟩, .string ⟨#[120]⟩, .int .i64 1, .string ⟨#[]⟩, .string ⟨#[121]⟩, .int .i64 1, .string ⟨#[]⟩] 36) := Bk.new (U.alloc (.cells #[.slice ta tn tc, .slice vb vm vd] 26)) (.cells #[.string ⟨#[107]⟩, .int .i64 2, .string ⟨#[]⟩, .string ⟨#[120]⟩, .int .i64 1, .string ⟨#[]⟩, .string ⟨#[121]⟩, .int .i64 1, .string ⟨#[]⟩] 36)
  have bt0 := Bk.new ((U.alloc (.cells #[.slice ta tn tc, .slice vb vm vd] 26)).alloc (.cells #[.string ⟨#[107]⟩, .int .i64 2, .string ⟨#[]⟩, .string ⟨#[120]⟩, .int .i64 1, .string ⟨#[]⟩, .string ⟨#[121]⟩, .int .i64 1, .string ⟨#[]⟩] 36)) (.cells #[.int .i64 1, .string ⟨#[]⟩, .string ⟨#[98]⟩, .slice (some ⟨U.heap.size + 1, 0, none⟩) 3 3, .slice none 0 0, .slice none 0 0, .slice none 0 0, .string ⟨#[]⟩, .slice none 0 0, .slice none 0 0, .slice none 0 0, .bool false, .slice none 0 0] 34)
  have hU1 := bal (Below.refl _ U) (.cells #[.slice ta tn tc, .slice vb vm vd] 26)
  have bs := (bs0.later (bal (Below.refl _ _) (.cells #[.string ⟨#[107]⟩, .int .i64 2, .string ⟨#[]⟩, .string ⟨#[120]⟩, .int .i64 1, .string ⟨#[]⟩, .string ⟨#[121]⟩, .int .i64 1, .string ⟨#[]⟩] 36))).later (bal (Below.refl _ _) (.cells #[.int .i64 1, .string ⟨#[]⟩, .string ⟨#[98]⟩, .slice (some ⟨U.heap.size + 1, 0, none⟩) 3 3, .slice none 0 0, .slice none 0 0, .slice none 0 0, .string ⟨#[]⟩, .slice none 0 0, .slice none 0 0, .slice none 0 0, .bool false, .slice none 0 0] 34))
  have bc : Bc _ _ fB := bc0.later (bal (Below.refl _ _) (.cells #[.int .i64 1, .string ⟨#[]⟩, .string ⟨#[98]⟩, .slice (some ⟨U.heap.size + 1, 0, none⟩) 3 3, .slice none 0 0, .slice none 0 0, .slice none 0 0, .string ⟨#[]⟩, .slice none 0 0, .slice none 0 0, .slice none 0 0, .bool false, .slice none 0 0] 34))
  have hwV : Below U.heap.size U (((U.alloc (.cells #[.slice ta tn tc, .slice vb vm vd] 26)).alloc (.cells #[.string ⟨#[107]⟩, .int .i64 2, .string ⟨#[]⟩, .string ⟨#[120]⟩, .int .i64 1, .string ⟨#[]⟩, .string ⟨#[121]⟩, .int .i64 1, .string ⟨#[]⟩] 36)).alloc (.cells #[.int .i64 1, .string ⟨#[]⟩, .string ⟨#[98]⟩, .slice (some ⟨U.heap.size + 1, 0, none⟩) 3 3, .slice none 0 0, .slice none 0 0, .slice none 0 0, .string ⟨#[]⟩, .slice none 0 0, .slice none 0 0, .slice none 0 0, .bool false, .slice none 0 0] 34)) := bal (bal (bal (Below.refl _ _) _) _) _
  have hVs : (((U.alloc (.cells #[.slice ta tn tc, .slice vb vm vd] 26)).alloc (.cells #[.string ⟨#[107]⟩, .int .i64 2, .string ⟨#[]⟩, .string ⟨#[120]⟩, .int .i64 1, .string ⟨#[]⟩, .string ⟨#[121]⟩, .int .i64 1, .string ⟨#[]⟩] 36)).alloc (.cells #[.int .i64 1, .string ⟨#[]⟩, .string ⟨#[98]⟩, .slice (some ⟨U.heap.size + 1, 0, none⟩) 3 3, .slice none 0 0, .slice none 0 0, .slice none 0 0, .string ⟨#[]⟩, .slice none 0 0, .slice none 0 0, .slice none 0 0, .bool false, .slice none 0 0] 34)).heap.size = U.heap.size + 3 := by simp
  rw [World.size_alloc] at bc
  rw [World.size_alloc, World.size_alloc] at bt0
  clear bs0 bc0 hU1
  generalize ((U.alloc (.cells #[.slice ta tn tc, .slice vb vm vd] 26)).alloc (.cells #[.string ⟨#[107]⟩, .int .i64 2, .string ⟨#[]⟩, .string ⟨#[120]⟩, .int .i64 1, .string ⟨#[]⟩, .string ⟨#[121]⟩, .int .i64 1, .string ⟨#[]⟩] 36)).alloc (.cells #[.int .i64 1, .string ⟨#[]⟩, .string ⟨#[98]⟩, .slice (some ⟨U.heap.size + 1, 0, none⟩) 3 3, .slice none 0 0, .slice none 0 0, .slice none 0 0, .string ⟨#[]⟩, .slice none 0 0, .slice none 0 0, .slice none 0 0, .bool false, .slice none 0 0] 34) = V at *
  have hUw := hw.size
  have HR1 : Hid (∀ w', (∀ b, b < U.heap.size → w'.heap[b]? = U.heap[b]?) → RowIs eTbl (fun _ => True) w' (.slice ta tn tc) [aTab]) := hid fun w' hb => (hR1.out.mono (by decide) (Q' := fun b => b < U.heap.size) fun b _ hl => hl).keep (by decide) (fun b hq _ => hb b hq) |>.any (by decide)
  have HR2 : Hid (∀ w', (∀ b, b < U.heap.size → w'.heap[b]? = U.heap[b]?) → RowIs eVw (fun _ => True) w' (.slice vb vm vd) []) := hid fun w' hb => (hR2.out.mono (by decide) (Q' := fun b => b < U.heap.size) fun b _ hl => hl).keep (by decide) (fun b hq _ => hb b hq) |>.any (by decide)
  have hwV2 := Below.trans hw (hwV.mono hw.size)
  clear hR1 hR2
  generalize hq : U.heap.size + 1 + 1 = q at *
  generalize hbb : U.heap.size + 1 = b at *
  generalize hq0 : U.heap.size = q0 at *
  have q3 : V.cell? ⟨q, 3, none⟩ = some (.slice (some ⟨b, 0, none⟩) 3 3) := bt0.cell 3
  obtain ⟨e1, -, f1, -⟩ := bc.k hP3
  have bc1 := bc.setK hP3 (1 + K)
  have bt1 : Bk (V.setCell ⟨b, P * 3 + 1, none⟩ (.int .i64 (1 + (K : Int)))) q _ := ⟨(Below.heap_setCell _ _ _ _ (show q ≠ b by omega)).trans bt0.row⟩
  have bs1 : Bk (V.setCell ⟨b, P * 3 + 1, none⟩ (.int .i64 (1 + (K : Int)))) q0 _ := ⟨(Below.heap_setCell _ _ _ _ (show q0 ≠ b by omega)).trans bs.row⟩
  have hw1 : Below w.heap.size w (V.setCell ⟨b, P * 3 + 1, none⟩ (.int .i64 (1 + (K : Int)))) := hwV2.setCell (show w.heap.size ≤ b by omega) _
  have hU1 : ∀ x, x < q0 → (V.setCell ⟨b, P * 3 + 1, none⟩ (.int .i64 (1 + (K : Int)))).heap[x]? = U.heap[x]? := fun x hx => (Below.heap_setCell _ _ _ _ (show x ≠ b by omega)).trans (hwV.block x hx)
  have hP3' : (P : Int) < 3 := by omega
  have hR3' : (R : Int) < 3 := by omega
  clear bc bt0 bs hwV hVs
  go_upto_region 9 with fail
  clear e1 f1 q3
  generalize V.setCell ⟨b, P * 3 + 1, none⟩ (.int .i64 (1 + (K : Int))) = V1 at *
  have q3 : V1.cell? ⟨q, 3, none⟩ = some (.slice (some ⟨b, 0, none⟩) 3 3) := bt1.cell 3
  refine wp_region_held_drew (S := fun w' => w'.cell? ⟨q, 3, none⟩ = some (.slice (some ⟨b, 0, none⟩) 3 3)) (by kernel_rfl) (q3) (fun hHeld => ?_)
  refine wpAnyH_take (i := 0) (v := ?tv1) rfl (by kernel_rfl) (by kernel_rfl) (by kernel_rfl) (fun _ _ _ h => h) (Or.inl ⟨by rfl, ?hy1⟩) (by assumption) ?rs1
  case hy1 => (intro w9 hSw; (try dsimp only at hSw); go_simp; (try with_reducible rfl))
  (try simp only [Act.put, List.getElem_toArray, List.getElem_cons_zero, List.getElem_cons_succ, List.setIfInBounds_toArray, List.set_cons_zero, List.set_cons_succ])
  refine wpAnyH_take (i := 1) (v := ?tv2) rfl (by kernel_rfl) (by kernel_rfl) (by kernel_rfl) (fun _ _ _ h => h) (Or.inl ⟨by rfl, ?hy2⟩) (by assumption) ?rs2
  case hy2 => (intro w9 hSw; (try dsimp only at hSw); go_simp; (try with_reducible rfl))
  (try simp only [Act.put, List.getElem_toArray, List.getElem_cons_zero, List.getElem_cons_succ, List.setIfInBounds_toArray, List.set_cons_zero, List.set_cons_succ])
  refine wpAnyH_take (i := 2) (v := ?tv3) rfl (by kernel_rfl) (by kernel_rfl) (by kernel_rfl) (fun _ _ _ h => h) (Or.inl ⟨by rfl, ?hy3⟩) (by assumption) ?rs3
  case hy3 => (intro w9 hSw; (try dsimp only at hSw); go_simp; (try with_reducible rfl))
  (try simp only [Act.put, List.getElem_toArray, List.getElem_cons_zero, List.getElem_cons_succ, List.setIfInBounds_toArray, List.set_cons_zero, List.set_cons_succ])
  refine wpAnyH_take (i := 4) (v := ?tv4) rfl (by kernel_rfl) (by kernel_rfl) (by kernel_rfl) (fun _ _ _ h => h) (Or.inl ⟨by rfl, ?hy4⟩) (by assumption) ?rs4
  case hy4 => (intro w9 hSw; (try dsimp only at hSw); go_simp; (try with_reducible rfl))
  (try simp only [Act.put, List.getElem_toArray, List.getElem_cons_zero, List.getElem_cons_succ, List.setIfInBounds_toArray, List.set_cons_zero, List.set_cons_succ])
  refine wpAnyH_take (i := 5) (v := ?tv5) rfl (by kernel_rfl) (by kernel_rfl) (by kernel_rfl) (fun _ _ _ h => h) (Or.inl ⟨by rfl, ?hy5⟩) (by assumption) ?rs5
  case hy5 => (intro w9 hSw; (try dsimp only at hSw); go_simp; (try with_reducible rfl))
  (try simp only [Act.put, List.getElem_toArray, List.getElem_cons_zero, List.getElem_cons_succ, List.setIfInBounds_toArray, List.set_cons_zero, List.set_cons_succ])
  refine wpAnyH_ready (rs := [3]) (by kernel_rfl) (by simp) ?_
  refine AllReadyH.cons rfl (fun K9 hK9 => ?_) AllReadyH.nil
  go_simp
  have hA := (bal (Below.refl _ V1) (.cells #[.string ⟨#[97]⟩, .string ⟨#[98]⟩, .string ⟨#[99]⟩] 9)).drew
  have q3a := cell_later hA q3
  have sR : ((V1.alloc (.cells #[.string ⟨#[97]⟩, .string ⟨#[98]⟩, .string ⟨#[99]⟩] 9)).drew).cell? ⟨V1.heap.size, R, none⟩ = some (.string (rS R)) := by
    refine (cell_new V1 _ _ _ R).trans ?_
    match R, hR3 with
    | 0, _ => rfl
    | 1, _ => rfl
    | 2, _ => rfl
  have hB1 : Bc ((V1.alloc (.cells #[.string ⟨#[97]⟩, .string ⟨#[98]⟩, .string ⟨#[99]⟩] 9)).drew) b (upK fB P (1 + K)) := Bc.later bc1 hA
  have hbt2 : Bk ((V1.alloc (.cells #[.string ⟨#[97]⟩, .string ⟨#[98]⟩, .string ⟨#[99]⟩] 9)).drew) q _ := bt1.later hA
  have hbs2 : Bk ((V1.alloc (.cells #[.string ⟨#[97]⟩, .string ⟨#[98]⟩, .string ⟨#[99]⟩] 9)).drew) q0 _ := bs1.later hA
  have hw2 : Below w.heap.size w ((V1.alloc (.cells #[.string ⟨#[97]⟩, .string ⟨#[98]⟩, .string ⟨#[99]⟩] 9)).drew) := (bal hw1 _).drew
  refine hK9.out _ _ (q3a) (fun hHeld => ?_)
  clear hK9 K9
  (try simp only [Act.put, List.getElem_toArray, List.getElem_cons_zero, List.getElem_cons_succ, List.setIfInBounds_toArray, List.set_cons_zero, List.set_cons_succ])
  generalize hV2 : (V1.alloc (.cells #[.string ⟨#[97]⟩, .string ⟨#[98]⟩, .string ⟨#[99]⟩] 9)).drew = V2 at *
  refine wpAnyH_take (i := 6) (v := ?tv8) rfl (by kernel_rfl) (by kernel_rfl) (by kernel_rfl) (fun _ _ _ h => h) (Or.inl ⟨by rfl, ?hy8⟩) (by assumption) ?rs8
  case hy8 => (intro w9 hSw; (try dsimp only at hSw); go_simp; (try with_reducible rfl))
  (try simp only [Act.put, List.getElem_toArray, List.getElem_cons_zero, List.getElem_cons_succ, List.setIfInBounds_toArray, List.set_cons_zero, List.set_cons_succ])
  refine wpAnyH_ready (rs := [7]) (by kernel_rfl) (by simp) ?_
  refine AllReadyH.cons rfl (fun K9 hK9 => ?_) AllReadyH.nil
  go_simp
  refine hK9.out _ _ (q3a) (fun hHeld => ?_)
  clear hK9 K9
  (try simp only [Act.put, List.getElem_toArray, List.getElem_cons_zero, List.getElem_cons_succ, List.setIfInBounds_toArray, List.set_cons_zero, List.set_cons_succ])
  refine wpAnyH_take (i := 8) (v := ?tv6) rfl (by kernel_rfl) (by kernel_rfl) (by kernel_rfl) (fun _ _ _ h => h) (Or.inl ⟨by rfl, ?hy6⟩) (by assumption) ?rs6
  case hy6 => (intro w9 hSw; (try dsimp only at hSw); go_simp; (try with_reducible rfl))
  (try simp only [Act.put, List.getElem_toArray, List.getElem_cons_zero, List.getElem_cons_succ, List.setIfInBounds_toArray, List.set_cons_zero, List.set_cons_succ])
  refine wpAnyH_take (i := 9) (v := ?tv7) rfl (by kernel_rfl) (by kernel_rfl) (by kernel_rfl) (fun _ _ _ h => h) (Or.inl ⟨by rfl, ?hy7⟩) (by assumption) ?rs7
  case hy7 => (intro w9 hSw; (try dsimp only at hSw); go_simp; (try with_reducible rfl))
  (try simp only [Act.put, List.getElem_toArray, List.getElem_cons_zero, List.getElem_cons_succ, List.setIfInBounds_toArray, List.set_cons_zero, List.set_cons_succ])
  obtain ⟨-, e2, -, f2⟩ := hB1.k hP3
  have bc2 := hB1.setR hP3 (rS R)
  refine wpAnyH_ready (rs := [10]) (by kernel_rfl) (by simp) ?_
  refine AllReadyH.cons rfl (fun K9 hK9 => ?_) AllReadyH.nil
  go_simp
  refine hK9.out _ (V2.setCell ⟨b, P * 3 + 2, none⟩ (.string (rS R))) ((World.cell?_of_block (a := ⟨q, 3, none⟩) (Below.heap_setCell _ _ _ _ (show q ≠ b by omega))).trans q3a) (fun hHeld => ?_)
  clear hK9 K9
  (try simp only [Act.put, List.getElem_toArray, List.getElem_cons_zero, List.getElem_cons_succ, List.setIfInBounds_toArray, List.set_cons_zero, List.set_cons_succ])
  refine wpAnyH_done (by kernel_rfl) ?_ _
  have bt2 : Bk (V2.setCell ⟨b, P * 3 + 2, none⟩ (.string (rS R))) q _ := ⟨(Below.heap_setCell _ _ _ _ (show q ≠ b by omega)).trans hbt2.row⟩
  have bs2 : Bk (V2.setCell ⟨b, P * 3 + 2, none⟩ (.string (rS R))) q0 _ := ⟨(Below.heap_setCell _ _ _ _ (show q0 ≠ b by omega)).trans hbs2.row⟩
  have hw3 : Below w.heap.size w (V2.setCell ⟨b, P * 3 + 2, none⟩ (.string (rS R))) := hw2.setCell (show w.heap.size ≤ b by omega) _
  have hU2 : ∀ x, x < q0 → (V2.setCell ⟨b, P * 3 + 2, none⟩ (.string (rS R))).heap[x]? = U.heap[x]? := fun x hx => (Below.heap_setCell _ _ _ _ (show x ≠ b by omega)).trans ((hA.block x (by have := bs1.lt; omega)).trans (hU1 x hx))
  clear hbt2 hbs2 hw2 hU1 hA hB1 hV2 hHeld q3a q3 sR bt1 bs1 bc1 hw1 e2 f2
  generalize V2.setCell ⟨b, P * 3 + 2, none⟩ (.string (rS R)) = V3 at *
  have HP := refs_plain P hP3 K hK2 R hR3 two
  have HB := fE_B P K R two
  have HP' : Hid _ := hid HP
  clear HP
  obtain ⟨T0, hT0⟩ : ∃ T, (two && decide (P = 1)) = T := ⟨_, rfl⟩
  cases T0 with
  | true =>
    have htw : two = true := by cases two <;> simp_all
    have hP1 : P = 1 := by cases two <;> simp_all
    subst htw hP1
    obtain ⟨-, e2, -, f2⟩ := bc2.k (p := 2) (by decide)
    have q3 : V3.cell? ⟨q, 3, none⟩ = some (.slice (some ⟨b, 0, none⟩) 3 3) := bt2.cell 3
    have bc3 := bc2.setR (p := 2) (by decide) ⟨#[97]⟩
    have bt3 : Bk (V3.setCell ⟨b, 2 * 3 + 2, none⟩ (.string ⟨#[97]⟩)) q _ := ⟨(Below.heap_setCell _ _ _ _ (show q ≠ b by omega)).trans bt2.row⟩
    have bs3 : Bk (V3.setCell ⟨b, 2 * 3 + 2, none⟩ (.string ⟨#[97]⟩)) q0 _ := ⟨(Below.heap_setCell _ _ _ _ (show q0 ≠ b by omega)).trans bs2.row⟩
    have hw4 : Below w.heap.size w (V3.setCell ⟨b, 2 * 3 + 2, none⟩ (.string ⟨#[97]⟩)) := hw3.setCell (show w.heap.size ≤ b by omega) _
    have hU3 : ∀ x, x < q0 → (V3.setCell ⟨b, 2 * 3 + 2, none⟩ (.string ⟨#[97]⟩)).heap[x]? = U.heap[x]? := fun x hx => (Below.heap_setCell _ _ _ _ (show x ≠ b by omega)).trans (hU2 x hx)
    have hfE : fE 1 K R true = upR (upR (upK fB 1 (1 + K)) 1 (rS R)) 2 ⟨#[97]⟩ := rfl
    rw [← hfE] at bc3
    simp only [Nat.reduceMul, Nat.reduceAdd] at e2 f2 bt3 bs3 hw4 hU3 bc3
    clear bc2 bt2 bs2 hw3 hU2 hfE
    go_upto_region 12 with fail
    clear e2 f2 q3
    generalize V3.setCell ⟨b, 8, none⟩ (.string ⟨#[97]⟩) = V4 at *
    have s0 := bs3.cell 0
    have s1 := bs3.cell 1
    have u0 := bt3.cell 0
    have u1 := bt3.cell 1
    have u2 := bt3.cell 2
    have u3 := bt3.cell 3
    have u4 := bt3.cell 4
    have u5 := bt3.cell 5
    have u6 := bt3.cell 6
    have u7 := bt3.cell 7
    have u8 := bt3.cell 8
    have u9 := bt3.cell 9
    have u10 := bt3.cell 10
    have u11 := bt3.cell 11
    have u12 := bt3.cell 12
    simp only [List.getElem?_toArray, List.getElem?_cons_zero, List.getElem?_cons_succ] at s0 s1 u0 u1 u2 u3 u4 u5 u6 u7 u8 u9 u10 u11 u12
    have HA := addTbl_any aTab_B (V0 := []) ⟨by simp, by simp⟩ (by decide) HB (HR1.out V4 hU3) (HR2.out V4 hU3) ⟨#[]⟩ (snm := ⟨#[98]⟩) (by simp only [StrB]; decide) none 0 0 none 0 0 none 0 0 ⟨#[]⟩ none 0 0 none 0 0 none 0 0 false none 0 0 bc3.row none 0 0
    rw [HP'.out] at HA
    replace HA : Hid _ := hid HA
    clear HR1 HR2 bs3 bt3 bc3 hU3 HB HP'
    go_wp2_with fail
    refine Calls.mono HA.out ?_
    rintro e U4 ⟨ya, yn, yc, xb, xm, xd, rfl, -, -, hb⟩
    replace hw4 := bal (Below.trans hw4 (hb.mono hw4.size)) (.cells #[.slice ya yn yc, .slice xb xm xd] 26)
    clear HA hb s0 s1 u0 u1 u2 u3 u4 u5 u6 u7 u8 u9 u10 u11 u12
    go_upto_region 13 with fail
    generalize U4.alloc (.cells #[.slice ya yn yc, .slice xb xm xd] 26) = U5 at *
    rcases (show R = 0 ∨ R = 1 ∨ R = 2 by omega) with rfl | rfl | rfl
    all_goals
      rcases (show K = 0 ∨ K = 1 by omega) with rfl | rfl
      all_goals
        simp only [wantZ]
        go_wp2
        go_ret
        exact ⟨rfl, hw4⟩
  | false =>
    have hfE : fE P K R two = upR (upK fB P (1 + K)) P (rS R) := by rw [fE, if_neg (by rw [hT0]; simp)]
    rw [← hfE] at bc2
    have bt3 := bt2
    have bs3 := bs2
    have hU3 := hU2
    have bc3 := bc2
    have hw4 := hw3
    have hcase : (two = false ∧ (P = 0 ∨ P = 1 ∨ P = 2)) ∨ (two = true ∧ (P = 0 ∨ P = 2)) := by
      cases two with
      | false => exact .inl ⟨rfl, by omega⟩
      | true => exact .inr ⟨rfl, by have : P ≠ 1 := by simpa using hT0
                                    omega⟩
    clear bc2 bt2 bs2 hw3 hU2 hfE hT0
    rcases hcase with ⟨rfl, rfl | rfl | rfl⟩ | ⟨rfl, rfl | rfl⟩
    all_goals
      go_upto_region 12 with fail
      have s0 := bs3.cell 0
      have s1 := bs3.cell 1
      have u0 := bt3.cell 0
      have u1 := bt3.cell 1
      have u2 := bt3.cell 2
      have u3 := bt3.cell 3
      have u4 := bt3.cell 4
      have u5 := bt3.cell 5
      have u6 := bt3.cell 6
      have u7 := bt3.cell 7
      have u8 := bt3.cell 8
      have u9 := bt3.cell 9
      have u10 := bt3.cell 10
      have u11 := bt3.cell 11
      have u12 := bt3.cell 12
      simp only [List.getElem?_toArray, List.getElem?_cons_zero, List.getElem?_cons_succ] at s0 s1 u0 u1 u2 u3 u4 u5 u6 u7 u8 u9 u10 u11 u12
      have HA := addTbl_any aTab_B (V0 := []) ⟨by simp, by simp⟩ (by decide) HB (HR1.out V3 hU3) (HR2.out V3 hU3) ⟨#[]⟩ (snm := ⟨#[98]⟩) (by simp only [StrB]; decide) none 0 0 none 0 0 none 0 0 ⟨#[]⟩ none 0 0 none 0 0 none 0 0 false none 0 0 bc3.row none 0 0
      rw [HP'.out] at HA
      replace HA : Hid _ := hid HA
      clear HR1 HR2 bs3 bt3 bc3 hU3 HB HP'
      go_wp2_with fail
      refine Calls.mono HA.out ?_
      rintro e U4 ⟨ya, yn, yc, xb, xm, xd, rfl, -, -, hb⟩
      replace hw4 := bal (Below.trans hw4 (hb.mono hw4.size)) (.cells #[.slice ya yn yc, .slice xb xm xd] 26)
      clear HA hb s0 s1 u0 u1 u2 u3 u4 u5 u6 u7 u8 u9 u10 u11 u12
      go_upto_region 13 with fail
      generalize U4.alloc (.cells #[.slice ya yn yc, .slice xb xm xd] 26) = U5 at *
      rcases (show R = 0 ∨ R = 1 ∨ R = 2 by omega) with rfl | rfl | rfl
      all_goals
        rcases (show K = 0 ∨ K = 1 by omega) with rfl | rfl
        all_goals
          simp only [wantZ]
          go_wp2
          go_ret
          exact ⟨rfl, hw4⟩

end Go.Proofs.Ytnboooaockgoiab
