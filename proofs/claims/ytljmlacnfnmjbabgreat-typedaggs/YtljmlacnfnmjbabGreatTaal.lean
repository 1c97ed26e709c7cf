import Derived.Test.YtljmlacnfnmjbabGreatTaak
namespace Go.Proofs.YtljmlacnfnmjbabGreat
open Go.RowKit
set_option linter.unusedVariables false
set_option linter.unusedSimpArgs false

theorem eqL_lit (n : ByteArray) (b : UInt8) : (n.toList == [b]) = decide (n = ⟨#[b]⟩) := by
  have h := same_str n ⟨#[b]⟩
  rw [← h, ByteArray.toList_eq ⟨#[b]⟩]
theorem Bk.putA {w : World} {b : Nat} {arr : Array Value} {t : TypeId} (h : Bk w b (.cells arr t (0, 0))) (k : Nat) (v : Value) : Bk (w.setCell ⟨b, k, none⟩ v) b (.cells (arr.setIfInBounds k v) t (0, 0)) := ⟨by
  have := h.row
  simp [World.setCell, Array.getElem?_modify, this]⟩
theorem OwnR.putA {ty k B r o : Nat} {w : World} {v x : Value} {css : List (List Value)} (h : OwnR ty k B w v css) (hne : v.ownBlock ≠ some r) : OwnR ty k B (w.setCell ⟨r, o, none⟩ x) v css := by
  refine ⟨h.1, h.2.1, ?_⟩
  rcases h.2.2 with k | ⟨b, cap, cur, hv, hg', hh, rr⟩
  · exact .inl k
  · refine .inr ⟨b, cap, cur, hv, hg', ?_, rr⟩
    rw [Below.heap_setCell _ _ _ _ (by rintro rfl; exact hne (by rw [hv]; rfl))]
    exact hh
theorem OwnR.bk {ty k B g : Nat} {w : World} {cs : List Value} (h : Bk w g (.cells cs.toArray ty (0, 0))) (hk : cs.length = k) (hB : B ≤ g) : OwnR ty k B w (.slice (some ⟨g, 0, none⟩) 1 1) [cs] := by
  subst hk
  exact ⟨fun c hc => by simp at hc; rw [hc], by simp, .inr ⟨g, 1, cs.toArray, rfl, hB, h.row, Nat.le_refl _, by simp [maxLen], by simp, by simp⟩⟩
def nm3 (R : Nat) : ByteArray := if R = 0 then ⟨#[107]⟩ else if R = 1 then ⟨#[118]⟩ else ⟨#[110]⟩
abbrev colG3 (t n : ByteArray) : Pg := (2, 0, 0, ⟨#[]⟩, t, n)
def aggN (nm : ByteArray) (a : Int) : ByteArray := if a = 1 then ⟨#[]⟩ else nm
def aggM (nm : ByteArray) (a : Int) (more order : Bool) : Sq := ⟨6, ⟨#[116]⟩, ⟨#[]⟩, [], (a, ⟨#[]⟩, aggN nm a) :: (if more then [(0, ⟨#[]⟩, ⟨#[107]⟩)] else []), ⟨#[]⟩, [], [], if order then [(colG3 ⟨#[]⟩ ⟨#[107]⟩, .nil)] else []⟩
def wantA (bv b2 b0 more order : Bool) : Int := if b2 && bv || !b0 && (more || order) then 11 else 0
theorem aggs_plain : ∀ R < 3, ∀ A < 5, ∀ more order : Bool, (if formP (aggM (nm3 R) (A : Nat) more order) 0 then selP tbs (aggM (nm3 R) (A : Nat) more order) else 1) = wantA (decide (nm3 R = ⟨#[118]⟩)) (decide ((A : Int) = 2)) (decide ((A : Int) = 0)) more order := by decide +kernel
theorem nm3_cells (U : World) {R : Nat} (hR : R < 3) : (U.alloc (.cells #[.string ⟨#[107]⟩, .string ⟨#[118]⟩, .string ⟨#[110]⟩] 9)).cell? ⟨U.heap.size, R, none⟩ = some (.string (nm3 R)) := by
  refine (cell_new U _ _ _ R).trans ?_
  match R, hR with
  | 0, _ => rfl
  | 1, _ => rfl
  | 2, _ => rfl
theorem sqB_agg (nm : ByteArray) (a : Int) (more order : Bool) : SqB (aggM nm a more order) := by
  refine ⟨by simp [aggM], ?_, by simp [aggM], by simp [aggM], ?_⟩
  · cases more <;> simp [aggM]
  · cases order <;> simp [aggM]

set_option maxRecDepth 100000 in
set_option maxHeartbeats 4000000 in
theorem colA_any (t n : ByteArray) (w : World) : Calls Tryz.prog 5 #[.string t, .string n] w fun en w' => en = .returned (.agg #[.int .i64 2, .int .i64 0, .int .i64 0, .string ⟨#[]⟩, .string t, .string n, .slice none 0 0]) ∧ Below w.heap.size w w' := by
  go_enter Tryz.func5, Tryz.ntmps5
  go_wp2
  refine bodyPost_ret (v := .agg #[.int .i64 2, .int .i64 0, .int .i64 0, .string ⟨#[]⟩, .string t, .string n, .slice none 0 0]) (by simp [results, Tryz.results5, go_sem]) rfl ⟨rfl, ?_⟩
  exact bal (Below.refl _ _) _
set_option maxRecDepth 100000 in
set_option maxHeartbeats 4000000 in
theorem typedAggs_any (n n2 : Nat) (hn : n ≤ 255) (hn2 : n2 ≤ 255) (more order : Bool) (w : World) : Calls Tryz.prog 3 #[.int .u8 (n : Int), .int .u8 (n2 : Int), .bool more, .bool order] w fun e w' => e = .returned (.bool true) ∧ Below w.heap.size w w' := by
  have H0 : Hid _ := hid (begun10_any w)
  have HS : Hid (∀ w1, _) := hid fun w1 => schemaT_any w1
  obtain ⟨A, hA⟩ : ∃ R, n % 5 = R := ⟨_, rfl⟩
  have hA5 : A < 5 := by omega
  have nt : (n : Int).tmod 5 = (A : Int) := by rw [Int.tmod_eq_emod_of_nonneg (by omega)]; omega
  obtain ⟨R, hR⟩ : ∃ R, n2 % 3 = R := ⟨_, rfl⟩
  have hR3 : R < 3 := by omega
  have hRi : (R : Int) < 3 := by omega
  have nt2 : (n2 : Int).tmod 3 = (R : Int) := by rw [Int.tmod_eq_emod_of_nonneg (by omega)]; omega
  have HX := aggs_plain R hR3 A hA5 more order
  have HC : Hid (∀ U : World, _) := hid fun U => nm3_cells U hR3
  have ev := eqL_lit (nm3 R) 118
  obtain ⟨nm, hnm⟩ : ∃ nm, nm3 R = nm := ⟨_, rfl⟩
  rw [hnm] at HX HC ev
  obtain ⟨X, hX⟩ : ∃ X, X = (if formP (aggM nm (A : Nat) more order) 0 then selP tbs (aggM nm (A : Nat) more order) else 1) := ⟨_, rfl⟩
  have HCk : Hid (∀ (sv : Sv) (b : Nat) w1, IsT w1 tbs (some ⟨b, 0, none⟩) 2 2 → IsQ w1 (aggM nm (A : Nat) more order) sv → sv.inn.2.1 = 0 → _) := hid fun sv b w1 hT hq hi => by
    have h := check_sel (vb := none) (vm := 0) (vd := 0) (sqB_agg nm (A : Nat) more order) hT hq rfl (fromC_tbs _)
    rw [hi, ← hX] at h
    exact h
  rw [← hX] at HX
  have hai : 0 ≤ (A : Int) ∧ (A : Int) < 5 := by omega
  have hwA : IntKind.i64.wrap (A : Int) = (A : Int) := by
    show (if (true && decide ((A : Int) % (2 ^ 64 : Int) ≥ (2 ^ (64 - 1) : Int))) = true then (A : Int) % (2 ^ 64 : Int) - (2 ^ 64 : Int) else (A : Int) % (2 ^ 64 : Int)) = _
    rw [if_neg (by simp; omega)]
    omega
  obtain ⟨a, ha⟩ : ∃ a : Int, (A : Int) = a := ⟨_, rfl⟩
  rw [ha] at HX HCk hwA nt
  generalize decide (nm = ⟨#[118]⟩) = bv at *
  replace HX : Hid _ := hid HX
  have HCo : Hid (∀ t n w1, _) := hid fun t n w1 => colA_any t n w1
  clear hR hA hnm hX ha hai hA5
  go_enter Tryz.func3, Tryz.ntmps3
  go_wp2_with fail
  refine Calls.mono H0.out ?_
  rintro e U ⟨rfl, hw⟩
  clear H0
  have sR := HC.out U
  have hA := bal (Below.refl U.heap.size U) (.cells #[.string ⟨#[107]⟩, .string ⟨#[118]⟩, .string ⟨#[110]⟩] 9)
  go_upto_region 4 with fail
  clear sR
  generalize U.alloc (.cells #[.string ⟨#[107]⟩, .string ⟨#[118]⟩, .string ⟨#[110]⟩] 9) = U1 at *
  replace hw := Below.on hw hA
  clear hA HC nt2
  have hU1 := hw.size
  go_upto_region 6 with fail
  by_cases h1 : a = 1
  · subst h1
    cases more with
    | false =>
      cases order with
      | false =>
        have b1 := (Bk.new U1 (.cells #[.int .i64 1, .string ⟨#[]⟩, .string ⟨#[]⟩] 25)).later (bal (Below.refl _ _) (.cells #[.int .i64 6, .string ⟨#[116]⟩, .string ⟨#[]⟩, .slice none 0 0, .slice none 0 0, .slice none 0 0, .slice (some ⟨U1.heap.size, 0, none⟩) 1 1, .string ⟨#[]⟩, .slice none 0 0, .slice none 0 0, .slice none 0 0, .bool false, .slice none 0 0] 32))
        have b2 := Bk.new (U1.alloc (.cells #[.int .i64 1, .string ⟨#[]⟩, .string ⟨#[]⟩] 25)) (.cells #[.int .i64 6, .string ⟨#[116]⟩, .string ⟨#[]⟩, .slice none 0 0, .slice none 0 0, .slice none 0 0, .slice (some ⟨U1.heap.size, 0, none⟩) 1 1, .string ⟨#[]⟩, .slice none 0 0, .slice none 0 0, .slice none 0 0, .bool false, .slice none 0 0] 32)
        have hb2 := bal (bal (Below.refl U1.heap.size U1) (.cells #[.int .i64 1, .string ⟨#[]⟩, .string ⟨#[]⟩] 25)) (.cells #[.int .i64 6, .string ⟨#[116]⟩, .string ⟨#[]⟩, .slice none 0 0, .slice none 0 0, .slice none 0 0, .slice (some ⟨U1.heap.size, 0, none⟩) 1 1, .string ⟨#[]⟩, .slice none 0 0, .slice none 0 0, .slice none 0 0, .bool false, .slice none 0 0] 32)
        rw [World.size_alloc] at b2
        go_upto_region 8 with fail
        generalize (U1.alloc (.cells #[.int .i64 1, .string ⟨#[]⟩, .string ⟨#[]⟩] 25)).alloc (.cells #[.int .i64 6, .string ⟨#[116]⟩, .string ⟨#[]⟩, .slice none 0 0, .slice none 0 0, .slice none 0 0, .slice (some ⟨U1.heap.size, 0, none⟩) 1 1, .string ⟨#[]⟩, .slice none 0 0, .slice none 0 0, .slice none 0 0, .bool false, .slice none 0 0] 32) = Z at *
        replace hw := Below.on hw hb2
        have hqo : U1.heap.size < U1.heap.size + 1 := by omega
        have hlq := b2.lt
        generalize U1.heap.size + 1 = q at *
        generalize U1.heap.size = qi at *
        clear hb2
        have hO : OwnR 25 3 qi Z (.slice (some ⟨qi, 0, none⟩) 1 1) [[.int .i64 1, .string ⟨#[]⟩, .string ⟨#[]⟩]] := OwnR.bk b1 rfl (Nat.le_refl _)
        clear b1
        go_upto_region 10 with fail
        have hnq : (Value.slice (some ⟨qi, 0, none⟩) 1 1).ownBlock ≠ some q := by simp [Value.ownBlock]; omega
        go_upto_region 12 with fail
        generalize Z = Y at *
        have HQ : Hid (∀ w1, Below Y.heap.size Y w1 → IsQ w1 (aggM nm 1 false false) ⟨6, ⟨#[116]⟩, ⟨#[]⟩, (none, 0, 0), (none, 0, 0), (none, 0, 0), (some ⟨qi, 0, none⟩, 1, 1), ⟨#[]⟩, (none, 0, 0), (none, 0, 0), (none, 0, 0), false, (none, 0, 0)⟩) := hid fun w1 hb =>
          ⟨rfl, rfl, rfl, rfl, RowIs.nil _ _ _, by
            have h := (OwnR.rowE (e := eItem) (l := [(1, ⟨#[]⟩, ⟨#[]⟩)]) (hO.later hb) rfl (fun _ _ _ => trivial) fun i h1 h2 => by have hi : i < 1 := h1; (match i, hi with | 0, _ => rfl))
            exact h, RowIs.nil _ _ _, RowIs.nil _ _ _, RowIs.nil _ _ _⟩
        have z0 : Y.cell? ⟨q, 0, none⟩ = some (.int .i64 6) := b2.cell 0
        have z1 : Y.cell? ⟨q, 1, none⟩ = some (.string ⟨#[116]⟩) := b2.cell 1
        have z2 : Y.cell? ⟨q, 2, none⟩ = some (.string ⟨#[]⟩) := b2.cell 2
        have z3 : Y.cell? ⟨q, 3, none⟩ = some (.slice none 0 0) := b2.cell 3
        have z4 : Y.cell? ⟨q, 4, none⟩ = some (.slice none 0 0) := b2.cell 4
        have z5 : Y.cell? ⟨q, 5, none⟩ = some (.slice none 0 0) := b2.cell 5
        have z6 : Y.cell? ⟨q, 6, none⟩ = some (.slice (some ⟨qi, 0, none⟩) 1 1) := b2.cell 6
        have z7 : Y.cell? ⟨q, 7, none⟩ = some (.string ⟨#[]⟩) := b2.cell 7
        have z8 : Y.cell? ⟨q, 8, none⟩ = some (.slice none 0 0) := b2.cell 8
        have z9 : Y.cell? ⟨q, 9, none⟩ = some (.slice none 0 0) := b2.cell 9
        have z10 : Y.cell? ⟨q, 10, none⟩ = some (.slice none 0 0) := b2.cell 10
        have z11 : Y.cell? ⟨q, 11, none⟩ = some (.bool false) := b2.cell 11
        have z12 : Y.cell? ⟨q, 12, none⟩ = some (.slice none 0 0) := b2.cell 12
        clear b2 hO hnq
        have hXX := HX.out
        have hcase : True := trivial
        simp [wantA] at hXX
        subst hXX
        clear HX hcase
        have hC : Below Y.heap.size Y Y.drew := (Below.refl _ Y).drew
        go_wp2
        go_region_held (fun w' => w'.cell? ⟨q, 0, none⟩ = some (.int .i64 6) ∧ w'.cell? ⟨q, 1, none⟩ = some (.string ⟨#[116]⟩) ∧ w'.cell? ⟨q, 2, none⟩ = some (.string ⟨#[]⟩) ∧ w'.cell? ⟨q, 3, none⟩ = some (.slice none 0 0) ∧ w'.cell? ⟨q, 4, none⟩ = some (.slice none 0 0) ∧ w'.cell? ⟨q, 5, none⟩ = some (.slice none 0 0) ∧ w'.cell? ⟨q, 6, none⟩ = some (.slice (some ⟨qi, 0, none⟩) 1 1) ∧ w'.cell? ⟨q, 7, none⟩ = some (.string ⟨#[]⟩) ∧ w'.cell? ⟨q, 8, none⟩ = some (.slice none 0 0) ∧ w'.cell? ⟨q, 9, none⟩ = some (.slice none 0 0) ∧ w'.cell? ⟨q, 10, none⟩ = some (.slice none 0 0) ∧ w'.cell? ⟨q, 11, none⟩ = some (.bool false) ∧ w'.cell? ⟨q, 12, none⟩ = some (.slice none 0 0))
          (first | exact ⟨cell_later hC z0, cell_later hC z1, cell_later hC z2, cell_later hC z3, cell_later hC z4, cell_later hC z5, cell_later hC z6, cell_later hC z7, cell_later hC z8, cell_later hC z9, cell_later hC z10, cell_later hC z11, cell_later hC z12⟩)
          (first
          | (go_at_call 7; with_reducible refine Calls.mono (HS.out _) ?_; rintro e y1 ⟨b, rfl, hT, -, hb1⟩; replace hC := Below.on hC hb1; have HT : Hid _ := hid hT; clear hT)
          | (go_at_call 6; with_reducible refine Calls.mono (HCk.out _ _ _ HT.out (HQ.out _ hC) rfl) ?_; rintro e y2 ⟨rfl, hb2⟩; replace hC := Below.on hC hb2))
        all_goals
          go_wp2
          go_ret
          exact ⟨rfl, Below.on hw hC⟩
      | true =>
        have b1 := (Bk.new U1 (.cells #[.int .i64 1, .string ⟨#[]⟩, .string ⟨#[]⟩] 25)).later (bal (Below.refl _ _) (.cells #[.int .i64 6, .string ⟨#[116]⟩, .string ⟨#[]⟩, .slice none 0 0, .slice none 0 0, .slice none 0 0, .slice (some ⟨U1.heap.size, 0, none⟩) 1 1, .string ⟨#[]⟩, .slice none 0 0, .slice none 0 0, .slice none 0 0, .bool false, .slice none 0 0] 32))
        have b2 := Bk.new (U1.alloc (.cells #[.int .i64 1, .string ⟨#[]⟩, .string ⟨#[]⟩] 25)) (.cells #[.int .i64 6, .string ⟨#[116]⟩, .string ⟨#[]⟩, .slice none 0 0, .slice none 0 0, .slice none 0 0, .slice (some ⟨U1.heap.size, 0, none⟩) 1 1, .string ⟨#[]⟩, .slice none 0 0, .slice none 0 0, .slice none 0 0, .bool false, .slice none 0 0] 32)
        have hb2 := bal (bal (Below.refl U1.heap.size U1) (.cells #[.int .i64 1, .string ⟨#[]⟩, .string ⟨#[]⟩] 25)) (.cells #[.int .i64 6, .string ⟨#[116]⟩, .string ⟨#[]⟩, .slice none 0 0, .slice none 0 0, .slice none 0 0, .slice (some ⟨U1.heap.size, 0, none⟩) 1 1, .string ⟨#[]⟩, .slice none 0 0, .slice none 0 0, .slice none 0 0, .bool false, .slice none 0 0] 32)
        rw [World.size_alloc] at b2
        go_upto_region 8 with fail
        generalize (U1.alloc (.cells #[.int .i64 1, .string ⟨#[]⟩, .string ⟨#[]⟩] 25)).alloc (.cells #[.int .i64 6, .string ⟨#[116]⟩, .string ⟨#[]⟩, .slice none 0 0, .slice none 0 0, .slice none 0 0, .slice (some ⟨U1.heap.size, 0, none⟩) 1 1, .string ⟨#[]⟩, .slice none 0 0, .slice none 0 0, .slice none 0 0, .bool false, .slice none 0 0] 32) = Z at *
        replace hw := Below.on hw hb2
        have hqo : U1.heap.size < U1.heap.size + 1 := by omega
        have hlq := b2.lt
        generalize U1.heap.size + 1 = q at *
        generalize U1.heap.size = qi at *
        clear hb2
        have hO : OwnR 25 3 qi Z (.slice (some ⟨qi, 0, none⟩) 1 1) [[.int .i64 1, .string ⟨#[]⟩, .string ⟨#[]⟩]] := OwnR.bk b1 rfl (Nat.le_refl _)
        clear b1
        go_upto_region 10 with fail
        have hnq : (Value.slice (some ⟨qi, 0, none⟩) 1 1).ownBlock ≠ some q := by simp [Value.ownBlock]; omega
        go_wp2_with fail
        refine Calls.mono (HCo.out _ _ _) ?_
        rintro e V3 ⟨rfl, hv3⟩
        replace b2 := b2.later hv3
        replace hO := hO.later hv3
        replace hw := Below.on hw hv3
        have hq3 := b2.lt
        have hI := bal (Below.refl V3.heap.size V3) (.cells #[.int .i64 2, .int .i64 0, .int .i64 0, .string ⟨#[]⟩, .string ⟨#[]⟩, .string ⟨#[107]⟩, .slice none 0 0] 36)
        have b2x := b2.later hI
        have f10 := b2x.free 10
        have z10 : (V3.alloc (.cells #[.int .i64 2, .int .i64 0, .int .i64 0, .string ⟨#[]⟩, .string ⟨#[]⟩, .string ⟨#[107]⟩, .slice none 0 0] 36)).cell? ⟨q, 10, none⟩ = some (.slice none 0 0) := b2x.cell 10
        go_upto_region 12 with fail
        clear b2x f10 z10
        replace hw := hw.setCell (show w.heap.size ≤ (⟨q, 10, none⟩ : Addr).block by show w.heap.size ≤ q; omega) (.slice (some ⟨V3.heap.size, 0, none⟩) 1 1)
        replace b2 := b2.putA 10 (.slice (some ⟨V3.heap.size, 0, none⟩) 1 1)
        replace hO := hO.putA (o := 10) (x := (.slice (some ⟨V3.heap.size, 0, none⟩) 1 1)) hnq
        have hs : (V3.setCell ⟨q, 10, none⟩ (.slice (some ⟨V3.heap.size, 0, none⟩) 1 1)).heap.size = V3.heap.size := by simp [World.setCell]
        have b3 := Bk.new (V3.setCell ⟨q, 10, none⟩ (.slice (some ⟨V3.heap.size, 0, none⟩) 1 1)) (.cells #[.int .i64 2, .int .i64 0, .int .i64 0, .string ⟨#[]⟩, .string ⟨#[]⟩, .string ⟨#[107]⟩, .slice none 0 0] 36)
        replace hI := bal (Below.refl _ (V3.setCell ⟨q, 10, none⟩ (.slice (some ⟨V3.heap.size, 0, none⟩) 1 1))) (.cells #[.int .i64 2, .int .i64 0, .int .i64 0, .string ⟨#[]⟩, .string ⟨#[]⟩, .string ⟨#[107]⟩, .slice none 0 0] 36)
        rw [hs] at b3
        replace b2 := b2.later hI
        replace hO := hO.later hI
        replace hw := bal hw (.cells #[.int .i64 2, .int .i64 0, .int .i64 0, .string ⟨#[]⟩, .string ⟨#[]⟩, .string ⟨#[107]⟩, .slice none 0 0] 36)
        generalize (V3.setCell ⟨q, 10, none⟩ (.slice (some ⟨V3.heap.size, 0, none⟩) 1 1)).alloc (.cells #[.int .i64 2, .int .i64 0, .int .i64 0, .string ⟨#[]⟩, .string ⟨#[]⟩, .string ⟨#[107]⟩, .slice none 0 0] 36) = Y at *
        generalize V3.heap.size = qc at *
        clear hs hI hv3 hq3
        have HQ : Hid (∀ w1, Below Y.heap.size Y w1 → IsQ w1 (aggM nm 1 false true) ⟨6, ⟨#[116]⟩, ⟨#[]⟩, (none, 0, 0), (none, 0, 0), (none, 0, 0), (some ⟨qi, 0, none⟩, 1, 1), ⟨#[]⟩, (none, 0, 0), (none, 0, 0), (some ⟨qc, 0, none⟩, 1, 1), false, (none, 0, 0)⟩) := hid fun w1 hb =>
          ⟨rfl, rfl, rfl, rfl, RowIs.nil _ _ _, by
            have h := (OwnR.rowE (e := eItem) (l := [(1, ⟨#[]⟩, ⟨#[]⟩)]) (hO.later hb) rfl (fun _ _ _ => trivial) fun i h1 h2 => by have hi : i < 1 := h1; (match i, hi with | 0, _ => rfl))
            exact h, RowIs.nil _ _ _, RowIs.nil _ _ _, row1_g (x := (colG3 ⟨#[]⟩ ⟨#[107]⟩, .nil)) (show Ce w1 qc 0 2 (0, 0, ⟨#[]⟩, ⟨#[]⟩, ⟨#[107]⟩) (.slice none 0 0) from ⟨(b3.later hb).cell 0, (b3.later hb).cell 1, (b3.later hb).cell 2, (b3.later hb).cell 3, (b3.later hb).cell 4, (b3.later hb).cell 5, (b3.later hb).cell 6⟩) (SlF.nil _ _)⟩
        have z0 : Y.cell? ⟨q, 0, none⟩ = some (.int .i64 6) := b2.cell 0
        have z1 : Y.cell? ⟨q, 1, none⟩ = some (.string ⟨#[116]⟩) := b2.cell 1
        have z2 : Y.cell? ⟨q, 2, none⟩ = some (.string ⟨#[]⟩) := b2.cell 2
        have z3 : Y.cell? ⟨q, 3, none⟩ = some (.slice none 0 0) := b2.cell 3
        have z4 : Y.cell? ⟨q, 4, none⟩ = some (.slice none 0 0) := b2.cell 4
        have z5 : Y.cell? ⟨q, 5, none⟩ = some (.slice none 0 0) := b2.cell 5
        have z6 : Y.cell? ⟨q, 6, none⟩ = some (.slice (some ⟨qi, 0, none⟩) 1 1) := b2.cell 6
        have z7 : Y.cell? ⟨q, 7, none⟩ = some (.string ⟨#[]⟩) := b2.cell 7
        have z8 : Y.cell? ⟨q, 8, none⟩ = some (.slice none 0 0) := b2.cell 8
        have z9 : Y.cell? ⟨q, 9, none⟩ = some (.slice none 0 0) := b2.cell 9
        have z10 : Y.cell? ⟨q, 10, none⟩ = some (.slice (some ⟨qc, 0, none⟩) 1 1) := b2.cell 10
        have z11 : Y.cell? ⟨q, 11, none⟩ = some (.bool false) := b2.cell 11
        have z12 : Y.cell? ⟨q, 12, none⟩ = some (.slice none 0 0) := b2.cell 12
        clear b2 hO hnq b3
        have hXX := HX.out
        have hcase : True := trivial
        simp [wantA] at hXX
        subst hXX
        clear HX hcase
        have hC : Below Y.heap.size Y Y.drew := (Below.refl _ Y).drew
        go_wp2
        go_region_held (fun w' => w'.cell? ⟨q, 0, none⟩ = some (.int .i64 6) ∧ w'.cell? ⟨q, 1, none⟩ = some (.string ⟨#[116]⟩) ∧ w'.cell? ⟨q, 2, none⟩ = some (.string ⟨#[]⟩) ∧ w'.cell? ⟨q, 3, none⟩ = some (.slice none 0 0) ∧ w'.cell? ⟨q, 4, none⟩ = some (.slice none 0 0) ∧ w'.cell? ⟨q, 5, none⟩ = some (.slice none 0 0) ∧ w'.cell? ⟨q, 6, none⟩ = some (.slice (some ⟨qi, 0, none⟩) 1 1) ∧ w'.cell? ⟨q, 7, none⟩ = some (.string ⟨#[]⟩) ∧ w'.cell? ⟨q, 8, none⟩ = some (.slice none 0 0) ∧ w'.cell? ⟨q, 9, none⟩ = some (.slice none 0 0) ∧ w'.cell? ⟨q, 10, none⟩ = some (.slice (some ⟨qc, 0, none⟩) 1 1) ∧ w'.cell? ⟨q, 11, none⟩ = some (.bool false) ∧ w'.cell? ⟨q, 12, none⟩ = some (.slice none 0 0))
          (first | exact ⟨cell_later hC z0, cell_later hC z1, cell_later hC z2, cell_later hC z3, cell_later hC z4, cell_later hC z5, cell_later hC z6, cell_later hC z7, cell_later hC z8, cell_later hC z9, cell_later hC z10, cell_later hC z11, cell_later hC z12⟩)
          (first
          | (go_at_call 7; with_reducible refine Calls.mono (HS.out _) ?_; rintro e y1 ⟨b, rfl, hT, -, hb1⟩; replace hC := Below.on hC hb1; have HT : Hid _ := hid hT; clear hT)
          | (go_at_call 6; with_reducible refine Calls.mono (HCk.out _ _ _ HT.out (HQ.out _ hC) rfl) ?_; rintro e y2 ⟨rfl, hb2⟩; replace hC := Below.on hC hb2))
        all_goals
          go_wp2
          go_ret
          exact ⟨rfl, Below.on hw hC⟩
    | true =>
      cases order with
      | false =>
        have b1 := (Bk.new U1 (.cells #[.int .i64 1, .string ⟨#[]⟩, .string ⟨#[]⟩] 25)).later (bal (Below.refl _ _) (.cells #[.int .i64 6, .string ⟨#[116]⟩, .string ⟨#[]⟩, .slice none 0 0, .slice none 0 0, .slice none 0 0, .slice (some ⟨U1.heap.size, 0, none⟩) 1 1, .string ⟨#[]⟩, .slice none 0 0, .slice none 0 0, .slice none 0 0, .bool false, .slice none 0 0] 32))
        have b2 := Bk.new (U1.alloc (.cells #[.int .i64 1, .string ⟨#[]⟩, .string ⟨#[]⟩] 25)) (.cells #[.int .i64 6, .string ⟨#[116]⟩, .string ⟨#[]⟩, .slice none 0 0, .slice none 0 0, .slice none 0 0, .slice (some ⟨U1.heap.size, 0, none⟩) 1 1, .string ⟨#[]⟩, .slice none 0 0, .slice none 0 0, .slice none 0 0, .bool false, .slice none 0 0] 32)
        have hb2 := bal (bal (Below.refl U1.heap.size U1) (.cells #[.int .i64 1, .string ⟨#[]⟩, .string ⟨#[]⟩] 25)) (.cells #[.int .i64 6, .string ⟨#[116]⟩, .string ⟨#[]⟩, .slice none 0 0, .slice none 0 0, .slice none 0 0, .slice (some ⟨U1.heap.size, 0, none⟩) 1 1, .string ⟨#[]⟩, .slice none 0 0, .slice none 0 0, .slice none 0 0, .bool false, .slice none 0 0] 32)
        rw [World.size_alloc] at b2
        go_upto_region 8 with fail
        generalize (U1.alloc (.cells #[.int .i64 1, .string ⟨#[]⟩, .string ⟨#[]⟩] 25)).alloc (.cells #[.int .i64 6, .string ⟨#[116]⟩, .string ⟨#[]⟩, .slice none 0 0, .slice none 0 0, .slice none 0 0, .slice (some ⟨U1.heap.size, 0, none⟩) 1 1, .string ⟨#[]⟩, .slice none 0 0, .slice none 0 0, .slice none 0 0, .bool false, .slice none 0 0] 32) = Z at *
        replace hw := Below.on hw hb2
        have hqo : U1.heap.size < U1.heap.size + 1 := by omega
        have hlq := b2.lt
        generalize U1.heap.size + 1 = q at *
        generalize U1.heap.size = qi at *
        clear hb2
        have hO : OwnR 25 3 qi Z (.slice (some ⟨qi, 0, none⟩) 1 1) [[.int .i64 1, .string ⟨#[]⟩, .string ⟨#[]⟩]] := OwnR.bk b1 rfl (Nat.le_refl _)
        clear b1
        have hI := bal (Below.refl Z.heap.size Z) (.cells #[.int .i64 0, .string ⟨#[]⟩, .string ⟨#[107]⟩] 25)
        have ho2 := hO.later hI
        have b2x := b2.later hI
        have z6 := b2.cell 6
        simp only [List.getElem?_toArray, List.getElem?_cons_zero, List.getElem?_cons_succ] at z6
        have hwI := bal hw (.cells #[.int .i64 0, .string ⟨#[]⟩, .string ⟨#[107]⟩] 25)
        have hBI : qi ≤ (Z.alloc (.cells #[.int .i64 0, .string ⟨#[]⟩, .string ⟨#[107]⟩] 25)).heap.size := by rw [World.size_alloc]; omega
        go_wp2_with (first | (at_builtin; go_must (refine wpList_appR Tryz.underlying26 Tryz.infoTItem rfl (by decide) (by decide) rfl (.tmp 36) (.tmp 38) rfl _ [[.int .i64 1, .string ⟨#[]⟩, .string ⟨#[]⟩]] Z.heap.size [.int .i64 0, .string ⟨#[]⟩, .string ⟨#[107]⟩] rfl rfl ho2 rfl (by simp [Value.oneCell']) (new3 Z _ _ _ _) (by simp) hBI ?_)) | fail)
        intro v' w6 hO6 hg6 hown
        have hb6 : Below w.heap.size w w6 := below_grows hwI hwI.size hg6 fun k e => by simp [Value.ownBlock] at e; omega
        have hq6 : w6.heap[q]? = (Z.alloc (.cells #[.int .i64 0, .string ⟨#[]⟩, .string ⟨#[107]⟩] 25)).heap[q]? := hg6.block q (by rw [World.size_alloc]; omega) (by simp [Value.ownBlock]; omega)
        have b2y : Bk w6 q _ := ⟨hq6.trans b2x.row⟩
        obtain ⟨ia, im, id, rfl⟩ := hO6.sl
        have hnq : (Value.slice ia im id).ownBlock ≠ some q := by
          rcases hown with h | h
          · rw [h]; simp [Value.ownBlock]; omega
          · rw [h]; simp; omega
        clear z6 ho2 b2x hI hwI hBI hg6 hown hq6 hO b2
        have f6 := b2y.free 6
        have z6 := b2y.cell 6
        simp only [List.getElem?_toArray, List.getElem?_cons_zero, List.getElem?_cons_succ] at z6
        go_upto_region 10 with fail
        have b2 := b2y.putA 6 (.slice ia im id)
        have hO := hO6.putA (o := 6) (x := .slice ia im id) hnq
        replace hw := hb6.setCell (show w.heap.size ≤ (⟨q, 6, none⟩ : Addr).block by show w.heap.size ≤ q; omega) (.slice ia im id)
        generalize w6.setCell ⟨q, 6, none⟩ (.slice ia im id) = Z1 at *
        clear f6 z6 b2y hO6 hb6
        go_upto_region 12 with fail
        generalize Z1 = Y at *
        have HQ : Hid (∀ w1, Below Y.heap.size Y w1 → IsQ w1 (aggM nm 1 true false) ⟨6, ⟨#[116]⟩, ⟨#[]⟩, (none, 0, 0), (none, 0, 0), (none, 0, 0), (ia, im, id), ⟨#[]⟩, (none, 0, 0), (none, 0, 0), (none, 0, 0), false, (none, 0, 0)⟩) := hid fun w1 hb =>
          ⟨rfl, rfl, rfl, rfl, RowIs.nil _ _ _, by
            have h := (OwnR.rowE (e := eItem) (l := [(1, ⟨#[]⟩, ⟨#[]⟩), (0, ⟨#[]⟩, ⟨#[107]⟩)]) (hO.later hb) rfl (fun _ _ _ => trivial) fun i h1 h2 => by have hi : i < 2 := h1; (match i, hi with | 0, _ => rfl | 1, _ => rfl))
            exact h, RowIs.nil _ _ _, RowIs.nil _ _ _, RowIs.nil _ _ _⟩
        have z0 : Y.cell? ⟨q, 0, none⟩ = some (.int .i64 6) := b2.cell 0
        have z1 : Y.cell? ⟨q, 1, none⟩ = some (.string ⟨#[116]⟩) := b2.cell 1
        have z2 : Y.cell? ⟨q, 2, none⟩ = some (.string ⟨#[]⟩) := b2.cell 2
        have z3 : Y.cell? ⟨q, 3, none⟩ = some (.slice none 0 0) := b2.cell 3
        have z4 : Y.cell? ⟨q, 4, none⟩ = some (.slice none 0 0) := b2.cell 4
        have z5 : Y.cell? ⟨q, 5, none⟩ = some (.slice none 0 0) := b2.cell 5
        have z6 : Y.cell? ⟨q, 6, none⟩ = some (.slice ia im id) := b2.cell 6
        have z7 : Y.cell? ⟨q, 7, none⟩ = some (.string ⟨#[]⟩) := b2.cell 7
        have z8 : Y.cell? ⟨q, 8, none⟩ = some (.slice none 0 0) := b2.cell 8
        have z9 : Y.cell? ⟨q, 9, none⟩ = some (.slice none 0 0) := b2.cell 9
        have z10 : Y.cell? ⟨q, 10, none⟩ = some (.slice none 0 0) := b2.cell 10
        have z11 : Y.cell? ⟨q, 11, none⟩ = some (.bool false) := b2.cell 11
        have z12 : Y.cell? ⟨q, 12, none⟩ = some (.slice none 0 0) := b2.cell 12
        clear b2 hO hnq
        have hXX := HX.out
        have hcase : True := trivial
        simp [wantA] at hXX
        subst hXX
        clear HX hcase
        have hC : Below Y.heap.size Y Y.drew := (Below.refl _ Y).drew
        go_wp2
        go_region_held (fun w' => w'.cell? ⟨q, 0, none⟩ = some (.int .i64 6) ∧ w'.cell? ⟨q, 1, none⟩ = some (.string ⟨#[116]⟩) ∧ w'.cell? ⟨q, 2, none⟩ = some (.string ⟨#[]⟩) ∧ w'.cell? ⟨q, 3, none⟩ = some (.slice none 0 0) ∧ w'.cell? ⟨q, 4, none⟩ = some (.slice none 0 0) ∧ w'.cell? ⟨q, 5, none⟩ = some (.slice none 0 0) ∧ w'.cell? ⟨q, 6, none⟩ = some (.slice ia im id) ∧ w'.cell? ⟨q, 7, none⟩ = some (.string ⟨#[]⟩) ∧ w'.cell? ⟨q, 8, none⟩ = some (.slice none 0 0) ∧ w'.cell? ⟨q, 9, none⟩ = some (.slice none 0 0) ∧ w'.cell? ⟨q, 10, none⟩ = some (.slice none 0 0) ∧ w'.cell? ⟨q, 11, none⟩ = some (.bool false) ∧ w'.cell? ⟨q, 12, none⟩ = some (.slice none 0 0))
          (first | exact ⟨cell_later hC z0, cell_later hC z1, cell_later hC z2, cell_later hC z3, cell_later hC z4, cell_later hC z5, cell_later hC z6, cell_later hC z7, cell_later hC z8, cell_later hC z9, cell_later hC z10, cell_later hC z11, cell_later hC z12⟩)
          (first
          | (go_at_call 7; with_reducible refine Calls.mono (HS.out _) ?_; rintro e y1 ⟨b, rfl, hT, -, hb1⟩; replace hC := Below.on hC hb1; have HT : Hid _ := hid hT; clear hT)
          | (go_at_call 6; with_reducible refine Calls.mono (HCk.out _ _ _ HT.out (HQ.out _ hC) rfl) ?_; rintro e y2 ⟨rfl, hb2⟩; replace hC := Below.on hC hb2))
        all_goals
          go_wp2
          go_ret
          exact ⟨rfl, Below.on hw hC⟩
      | true =>
        have b1 := (Bk.new U1 (.cells #[.int .i64 1, .string ⟨#[]⟩, .string ⟨#[]⟩] 25)).later (bal (Below.refl _ _) (.cells #[.int .i64 6, .string ⟨#[116]⟩, .string ⟨#[]⟩, .slice none 0 0, .slice none 0 0, .slice none 0 0, .slice (some ⟨U1.heap.size, 0, none⟩) 1 1, .string ⟨#[]⟩, .slice none 0 0, .slice none 0 0, .slice none 0 0, .bool false, .slice none 0 0] 32))
        have b2 := Bk.new (U1.alloc (.cells #[.int .i64 1, .string ⟨#[]⟩, .string ⟨#[]⟩] 25)) (.cells #[.int .i64 6, .string ⟨#[116]⟩, .string ⟨#[]⟩, .slice none 0 0, .slice none 0 0, .slice none 0 0, .slice (some ⟨U1.heap.size, 0, none⟩) 1 1, .string ⟨#[]⟩, .slice none 0 0, .slice none 0 0, .slice none 0 0, .bool false, .slice none 0 0] 32)
        have hb2 := bal (bal (Below.refl U1.heap.size U1) (.cells #[.int .i64 1, .string ⟨#[]⟩, .string ⟨#[]⟩] 25)) (.cells #[.int .i64 6, .string ⟨#[116]⟩, .string ⟨#[]⟩, .slice none 0 0, .slice none 0 0, .slice none 0 0, .slice (some ⟨U1.heap.size, 0, none⟩) 1 1, .string ⟨#[]⟩, .slice none 0 0, .slice none 0 0, .slice none 0 0, .bool false, .slice none 0 0] 32)
        rw [World.size_alloc] at b2
        go_upto_region 8 with fail
        generalize (U1.alloc (.cells #[.int .i64 1, .string ⟨#[]⟩, .string ⟨#[]⟩] 25)).alloc (.cells #[.int .i64 6, .string ⟨#[116]⟩, .string ⟨#[]⟩, .slice none 0 0, .slice none 0 0, .slice none 0 0, .slice (some ⟨U1.heap.size, 0, none⟩) 1 1, .string ⟨#[]⟩, .slice none 0 0, .slice none 0 0, .slice none 0 0, .bool false, .slice none 0 0] 32) = Z at *
        replace hw := Below.on hw hb2
        have hqo : U1.heap.size < U1.heap.size + 1 := by omega
        have hlq := b2.lt
        generalize U1.heap.size + 1 = q at *
        generalize U1.heap.size = qi at *
        clear hb2
        have hO : OwnR 25 3 qi Z (.slice (some ⟨qi, 0, none⟩) 1 1) [[.int .i64 1, .string ⟨#[]⟩, .string ⟨#[]⟩]] := OwnR.bk b1 rfl (Nat.le_refl _)
        clear b1
        have hI := bal (Below.refl Z.heap.size Z) (.cells #[.int .i64 0, .string ⟨#[]⟩, .string ⟨#[107]⟩] 25)
        have ho2 := hO.later hI
        have b2x := b2.later hI
        have z6 := b2.cell 6
        simp only [List.getElem?_toArray, List.getElem?_cons_zero, List.getElem?_cons_succ] at z6
        have hwI := bal hw (.cells #[.int .i64 0, .string ⟨#[]⟩, .string ⟨#[107]⟩] 25)
        have hBI : qi ≤ (Z.alloc (.cells #[.int .i64 0, .string ⟨#[]⟩, .string ⟨#[107]⟩] 25)).heap.size := by rw [World.size_alloc]; omega
        go_wp2_with (first | (at_builtin; go_must (refine wpList_appR Tryz.underlying26 Tryz.infoTItem rfl (by decide) (by decide) rfl (.tmp 36) (.tmp 38) rfl _ [[.int .i64 1, .string ⟨#[]⟩, .string ⟨#[]⟩]] Z.heap.size [.int .i64 0, .string ⟨#[]⟩, .string ⟨#[107]⟩] rfl rfl ho2 rfl (by simp [Value.oneCell']) (new3 Z _ _ _ _) (by simp) hBI ?_)) | fail)
        intro v' w6 hO6 hg6 hown
        have hb6 : Below w.heap.size w w6 := below_grows hwI hwI.size hg6 fun k e => by simp [Value.ownBlock] at e; omega
        have hq6 : w6.heap[q]? = (Z.alloc (.cells #[.int .i64 0, .string ⟨#[]⟩, .string ⟨#[107]⟩] 25)).heap[q]? := hg6.block q (by rw [World.size_alloc]; omega) (by simp [Value.ownBlock]; omega)
        have b2y : Bk w6 q _ := ⟨hq6.trans b2x.row⟩
        obtain ⟨ia, im, id, rfl⟩ := hO6.sl
        have hnq : (Value.slice ia im id).ownBlock ≠ some q := by
          rcases hown with h | h
          · rw [h]; simp [Value.ownBlock]; omega
          · rw [h]; simp; omega
        clear z6 ho2 b2x hI hwI hBI hg6 hown hq6 hO b2
        have f6 := b2y.free 6
        have z6 := b2y.cell 6
        simp only [List.getElem?_toArray, List.getElem?_cons_zero, List.getElem?_cons_succ] at z6
        go_upto_region 10 with fail
        have b2 := b2y.putA 6 (.slice ia im id)
        have hO := hO6.putA (o := 6) (x := .slice ia im id) hnq
        replace hw := hb6.setCell (show w.heap.size ≤ (⟨q, 6, none⟩ : Addr).block by show w.heap.size ≤ q; omega) (.slice ia im id)
        generalize w6.setCell ⟨q, 6, none⟩ (.slice ia im id) = Z1 at *
        clear f6 z6 b2y hO6 hb6
        go_wp2_with fail
        refine Calls.mono (HCo.out _ _ _) ?_
        rintro e V3 ⟨rfl, hv3⟩
        replace b2 := b2.later hv3
        replace hO := hO.later hv3
        replace hw := Below.on hw hv3
        have hq3 := b2.lt
        have hI := bal (Below.refl V3.heap.size V3) (.cells #[.int .i64 2, .int .i64 0, .int .i64 0, .string ⟨#[]⟩, .string ⟨#[]⟩, .string ⟨#[107]⟩, .slice none 0 0] 36)
        have b2x := b2.later hI
        have f10 := b2x.free 10
        have z10 : (V3.alloc (.cells #[.int .i64 2, .int .i64 0, .int .i64 0, .string ⟨#[]⟩, .string ⟨#[]⟩, .string ⟨#[107]⟩, .slice none 0 0] 36)).cell? ⟨q, 10, none⟩ = some (.slice none 0 0) := b2x.cell 10
        go_upto_region 12 with fail
        clear b2x f10 z10
        replace hw := hw.setCell (show w.heap.size ≤ (⟨q, 10, none⟩ : Addr).block by show w.heap.size ≤ q; omega) (.slice (some ⟨V3.heap.size, 0, none⟩) 1 1)
        replace b2 := b2.putA 10 (.slice (some ⟨V3.heap.size, 0, none⟩) 1 1)
        replace hO := hO.putA (o := 10) (x := (.slice (some ⟨V3.heap.size, 0, none⟩) 1 1)) hnq
        have hs : (V3.setCell ⟨q, 10, none⟩ (.slice (some ⟨V3.heap.size, 0, none⟩) 1 1)).heap.size = V3.heap.size := by simp [World.setCell]
        have b3 := Bk.new (V3.setCell ⟨q, 10, none⟩ (.slice (some ⟨V3.heap.size, 0, none⟩) 1 1)) (.cells #[.int .i64 2, .int .i64 0, .int .i64 0, .string ⟨#[]⟩, .string ⟨#[]⟩, .string ⟨#[107]⟩, .slice none 0 0] 36)
        replace hI := bal (Below.refl _ (V3.setCell ⟨q, 10, none⟩ (.slice (some ⟨V3.heap.size, 0, none⟩) 1 1))) (.cells #[.int .i64 2, .int .i64 0, .int .i64 0, .string ⟨#[]⟩, .string ⟨#[]⟩, .string ⟨#[107]⟩, .slice none 0 0] 36)
        rw [hs] at b3
        replace b2 := b2.later hI
        replace hO := hO.later hI
        replace hw := bal hw (.cells #[.int .i64 2, .int .i64 0, .int .i64 0, .string ⟨#[]⟩, .string ⟨#[]⟩, .string ⟨#[107]⟩, .slice none 0 0] 36)
        generalize (V3.setCell ⟨q, 10, none⟩ (.slice (some ⟨V3.heap.size, 0, none⟩) 1 1)).alloc (.cells #[.int .i64 2, .int .i64 0, .int .i64 0, .string ⟨#[]⟩, .string ⟨#[]⟩, .string ⟨#[107]⟩, .slice none 0 0] 36) = Y at *
        generalize V3.heap.size = qc at *
        clear hs hI hv3 hq3
        have HQ : Hid (∀ w1, Below Y.heap.size Y w1 → IsQ w1 (aggM nm 1 true true) ⟨6, ⟨#[116]⟩, ⟨#[]⟩, (none, 0, 0), (none, 0, 0), (none, 0, 0), (ia, im, id), ⟨#[]⟩, (none, 0, 0), (none, 0, 0), (some ⟨qc, 0, none⟩, 1, 1), false, (none, 0, 0)⟩) := hid fun w1 hb =>
          ⟨rfl, rfl, rfl, rfl, RowIs.nil _ _ _, by
            have h := (OwnR.rowE (e := eItem) (l := [(1, ⟨#[]⟩, ⟨#[]⟩), (0, ⟨#[]⟩, ⟨#[107]⟩)]) (hO.later hb) rfl (fun _ _ _ => trivial) fun i h1 h2 => by have hi : i < 2 := h1; (match i, hi with | 0, _ => rfl | 1, _ => rfl))
            exact h, RowIs.nil _ _ _, RowIs.nil _ _ _, row1_g (x := (colG3 ⟨#[]⟩ ⟨#[107]⟩, .nil)) (show Ce w1 qc 0 2 (0, 0, ⟨#[]⟩, ⟨#[]⟩, ⟨#[107]⟩) (.slice none 0 0) from ⟨(b3.later hb).cell 0, (b3.later hb).cell 1, (b3.later hb).cell 2, (b3.later hb).cell 3, (b3.later hb).cell 4, (b3.later hb).cell 5, (b3.later hb).cell 6⟩) (SlF.nil _ _)⟩
        have z0 : Y.cell? ⟨q, 0, none⟩ = some (.int .i64 6) := b2.cell 0
        have z1 : Y.cell? ⟨q, 1, none⟩ = some (.string ⟨#[116]⟩) := b2.cell 1
        have z2 : Y.cell? ⟨q, 2, none⟩ = some (.string ⟨#[]⟩) := b2.cell 2
        have z3 : Y.cell? ⟨q, 3, none⟩ = some (.slice none 0 0) := b2.cell 3
        have z4 : Y.cell? ⟨q, 4, none⟩ = some (.slice none 0 0) := b2.cell 4
        have z5 : Y.cell? ⟨q, 5, none⟩ = some (.slice none 0 0) := b2.cell 5
        have z6 : Y.cell? ⟨q, 6, none⟩ = some (.slice ia im id) := b2.cell 6
        have z7 : Y.cell? ⟨q, 7, none⟩ = some (.string ⟨#[]⟩) := b2.cell 7
        have z8 : Y.cell? ⟨q, 8, none⟩ = some (.slice none 0 0) := b2.cell 8
        have z9 : Y.cell? ⟨q, 9, none⟩ = some (.slice none 0 0) := b2.cell 9
        have z10 : Y.cell? ⟨q, 10, none⟩ = some (.slice (some ⟨qc, 0, none⟩) 1 1) := b2.cell 10
        have z11 : Y.cell? ⟨q, 11, none⟩ = some (.bool false) := b2.cell 11
        have z12 : Y.cell? ⟨q, 12, none⟩ = some (.slice none 0 0) := b2.cell 12
        clear b2 hO hnq b3
        have hXX := HX.out
        have hcase : True := trivial
        simp [wantA] at hXX
        subst hXX
        clear HX hcase
        have hC : Below Y.heap.size Y Y.drew := (Below.refl _ Y).drew
        go_wp2
        go_region_held (fun w' => w'.cell? ⟨q, 0, none⟩ = some (.int .i64 6) ∧ w'.cell? ⟨q, 1, none⟩ = some (.string ⟨#[116]⟩) ∧ w'.cell? ⟨q, 2, none⟩ = some (.string ⟨#[]⟩) ∧ w'.cell? ⟨q, 3, none⟩ = some (.slice none 0 0) ∧ w'.cell? ⟨q, 4, none⟩ = some (.slice none 0 0) ∧ w'.cell? ⟨q, 5, none⟩ = some (.slice none 0 0) ∧ w'.cell? ⟨q, 6, none⟩ = some (.slice ia im id) ∧ w'.cell? ⟨q, 7, none⟩ = some (.string ⟨#[]⟩) ∧ w'.cell? ⟨q, 8, none⟩ = some (.slice none 0 0) ∧ w'.cell? ⟨q, 9, none⟩ = some (.slice none 0 0) ∧ w'.cell? ⟨q, 10, none⟩ = some (.slice (some ⟨qc, 0, none⟩) 1 1) ∧ w'.cell? ⟨q, 11, none⟩ = some (.bool false) ∧ w'.cell? ⟨q, 12, none⟩ = some (.slice none 0 0))
          (first | exact ⟨cell_later hC z0, cell_later hC z1, cell_later hC z2, cell_later hC z3, cell_later hC z4, cell_later hC z5, cell_later hC z6, cell_later hC z7, cell_later hC z8, cell_later hC z9, cell_later hC z10, cell_later hC z11, cell_later hC z12⟩)
          (first
          | (go_at_call 7; with_reducible refine Calls.mono (HS.out _) ?_; rintro e y1 ⟨b, rfl, hT, -, hb1⟩; replace hC := Below.on hC hb1; have HT : Hid _ := hid hT; clear hT)
          | (go_at_call 6; with_reducible refine Calls.mono (HCk.out _ _ _ HT.out (HQ.out _ hC) rfl) ?_; rintro e y2 ⟨rfl, hb2⟩; replace hC := Below.on hC hb2))
        all_goals
          go_wp2
          go_ret
          exact ⟨rfl, Below.on hw hC⟩
  · have g1 : decide (a = 1) = false := by simpa using h1
    cases more with
    | false =>
      cases order with
      | false =>
        have b1 := (Bk.new U1 (.cells #[.int .i64 a, .string ⟨#[]⟩, .string nm] 25)).later (bal (Below.refl _ _) (.cells #[.int .i64 6, .string ⟨#[116]⟩, .string ⟨#[]⟩, .slice none 0 0, .slice none 0 0, .slice none 0 0, .slice (some ⟨U1.heap.size, 0, none⟩) 1 1, .string ⟨#[]⟩, .slice none 0 0, .slice none 0 0, .slice none 0 0, .bool false, .slice none 0 0] 32))
        have b2 := Bk.new (U1.alloc (.cells #[.int .i64 a, .string ⟨#[]⟩, .string nm] 25)) (.cells #[.int .i64 6, .string ⟨#[116]⟩, .string ⟨#[]⟩, .slice none 0 0, .slice none 0 0, .slice none 0 0, .slice (some ⟨U1.heap.size, 0, none⟩) 1 1, .string ⟨#[]⟩, .slice none 0 0, .slice none 0 0, .slice none 0 0, .bool false, .slice none 0 0] 32)
        have hb2 := bal (bal (Below.refl U1.heap.size U1) (.cells #[.int .i64 a, .string ⟨#[]⟩, .string nm] 25)) (.cells #[.int .i64 6, .string ⟨#[116]⟩, .string ⟨#[]⟩, .slice none 0 0, .slice none 0 0, .slice none 0 0, .slice (some ⟨U1.heap.size, 0, none⟩) 1 1, .string ⟨#[]⟩, .slice none 0 0, .slice none 0 0, .slice none 0 0, .bool false, .slice none 0 0] 32)
        rw [World.size_alloc] at b2
        go_upto_region 8 with fail
        generalize (U1.alloc (.cells #[.int .i64 a, .string ⟨#[]⟩, .string nm] 25)).alloc (.cells #[.int .i64 6, .string ⟨#[116]⟩, .string ⟨#[]⟩, .slice none 0 0, .slice none 0 0, .slice none 0 0, .slice (some ⟨U1.heap.size, 0, none⟩) 1 1, .string ⟨#[]⟩, .slice none 0 0, .slice none 0 0, .slice none 0 0, .bool false, .slice none 0 0] 32) = Z at *
        replace hw := Below.on hw hb2
        have hqo : U1.heap.size < U1.heap.size + 1 := by omega
        have hlq := b2.lt
        generalize U1.heap.size + 1 = q at *
        generalize U1.heap.size = qi at *
        clear hb2
        have hO : OwnR 25 3 qi Z (.slice (some ⟨qi, 0, none⟩) 1 1) [[.int .i64 a, .string ⟨#[]⟩, .string nm]] := OwnR.bk b1 rfl (Nat.le_refl _)
        clear b1
        go_upto_region 10 with fail
        have hnq : (Value.slice (some ⟨qi, 0, none⟩) 1 1).ownBlock ≠ some q := by simp [Value.ownBlock]; omega
        go_upto_region 12 with fail
        generalize Z = Y at *
        have HQ : Hid (∀ w1, Below Y.heap.size Y w1 → IsQ w1 (aggM nm a false false) ⟨6, ⟨#[116]⟩, ⟨#[]⟩, (none, 0, 0), (none, 0, 0), (none, 0, 0), (some ⟨qi, 0, none⟩, 1, 1), ⟨#[]⟩, (none, 0, 0), (none, 0, 0), (none, 0, 0), false, (none, 0, 0)⟩) := hid fun w1 hb =>
          ⟨rfl, rfl, rfl, rfl, RowIs.nil _ _ _, by
            have h := (OwnR.rowE (e := eItem) (l := [(a, ⟨#[]⟩, nm)]) (hO.later hb) rfl (fun _ _ _ => trivial) fun i h1 h2 => by have hi : i < 1 := h1; (match i, hi with | 0, _ => rfl))
            rw [show (aggM nm a false false).items = [(a, ⟨#[]⟩, nm)] from by unfold aggM aggN; rw [if_neg h1]; rfl]; exact h, RowIs.nil _ _ _, RowIs.nil _ _ _, RowIs.nil _ _ _⟩
        have z0 : Y.cell? ⟨q, 0, none⟩ = some (.int .i64 6) := b2.cell 0
        have z1 : Y.cell? ⟨q, 1, none⟩ = some (.string ⟨#[116]⟩) := b2.cell 1
        have z2 : Y.cell? ⟨q, 2, none⟩ = some (.string ⟨#[]⟩) := b2.cell 2
        have z3 : Y.cell? ⟨q, 3, none⟩ = some (.slice none 0 0) := b2.cell 3
        have z4 : Y.cell? ⟨q, 4, none⟩ = some (.slice none 0 0) := b2.cell 4
        have z5 : Y.cell? ⟨q, 5, none⟩ = some (.slice none 0 0) := b2.cell 5
        have z6 : Y.cell? ⟨q, 6, none⟩ = some (.slice (some ⟨qi, 0, none⟩) 1 1) := b2.cell 6
        have z7 : Y.cell? ⟨q, 7, none⟩ = some (.string ⟨#[]⟩) := b2.cell 7
        have z8 : Y.cell? ⟨q, 8, none⟩ = some (.slice none 0 0) := b2.cell 8
        have z9 : Y.cell? ⟨q, 9, none⟩ = some (.slice none 0 0) := b2.cell 9
        have z10 : Y.cell? ⟨q, 10, none⟩ = some (.slice none 0 0) := b2.cell 10
        have z11 : Y.cell? ⟨q, 11, none⟩ = some (.bool false) := b2.cell 11
        have z12 : Y.cell? ⟨q, 12, none⟩ = some (.slice none 0 0) := b2.cell 12
        clear b2 hO hnq
        have hcase : (a = 2 ∧ bv = true) ∨ (a = 2 ∧ bv = false) ∨ a = 0 ∨ (¬ a = 2 ∧ ¬ a = 0) := by
          by_cases g2 : a = 2
          · cases bv
            · exact .inr (.inl ⟨g2, rfl⟩)
            · exact .inl ⟨g2, rfl⟩
          · by_cases g0 : a = 0
            · exact .inr (.inr (.inl g0))
            · exact .inr (.inr (.inr ⟨g2, g0⟩))
        have hXX := HX.out
        rcases hcase with ⟨rfl, rfl⟩ | ⟨rfl, rfl⟩ | rfl | ⟨g2, g0⟩
        · simp [wantA] at hXX
          subst hXX
          clear HX
          have hC : Below Y.heap.size Y Y.drew := (Below.refl _ Y).drew
          go_wp2
          go_region_held (fun w' => w'.cell? ⟨q, 0, none⟩ = some (.int .i64 6) ∧ w'.cell? ⟨q, 1, none⟩ = some (.string ⟨#[116]⟩) ∧ w'.cell? ⟨q, 2, none⟩ = some (.string ⟨#[]⟩) ∧ w'.cell? ⟨q, 3, none⟩ = some (.slice none 0 0) ∧ w'.cell? ⟨q, 4, none⟩ = some (.slice none 0 0) ∧ w'.cell? ⟨q, 5, none⟩ = some (.slice none 0 0) ∧ w'.cell? ⟨q, 6, none⟩ = some (.slice (some ⟨qi, 0, none⟩) 1 1) ∧ w'.cell? ⟨q, 7, none⟩ = some (.string ⟨#[]⟩) ∧ w'.cell? ⟨q, 8, none⟩ = some (.slice none 0 0) ∧ w'.cell? ⟨q, 9, none⟩ = some (.slice none 0 0) ∧ w'.cell? ⟨q, 10, none⟩ = some (.slice none 0 0) ∧ w'.cell? ⟨q, 11, none⟩ = some (.bool false) ∧ w'.cell? ⟨q, 12, none⟩ = some (.slice none 0 0))
            (first | exact ⟨cell_later hC z0, cell_later hC z1, cell_later hC z2, cell_later hC z3, cell_later hC z4, cell_later hC z5, cell_later hC z6, cell_later hC z7, cell_later hC z8, cell_later hC z9, cell_later hC z10, cell_later hC z11, cell_later hC z12⟩)
            (first
            | (go_at_call 7; with_reducible refine Calls.mono (HS.out _) ?_; rintro e y1 ⟨b, rfl, hT, -, hb1⟩; replace hC := Below.on hC hb1; have HT : Hid _ := hid hT; clear hT)
            | (go_at_call 6; with_reducible refine Calls.mono (HCk.out _ _ _ HT.out (HQ.out _ hC) rfl) ?_; rintro e y2 ⟨rfl, hb2⟩; replace hC := Below.on hC hb2))
          all_goals
            go_wp2
            go_ret
            exact ⟨rfl, Below.on hw hC⟩
        · simp [wantA] at hXX
          subst hXX
          clear HX
          have hC : Below Y.heap.size Y Y.drew := (Below.refl _ Y).drew
          go_wp2
          go_region_held (fun w' => w'.cell? ⟨q, 0, none⟩ = some (.int .i64 6) ∧ w'.cell? ⟨q, 1, none⟩ = some (.string ⟨#[116]⟩) ∧ w'.cell? ⟨q, 2, none⟩ = some (.string ⟨#[]⟩) ∧ w'.cell? ⟨q, 3, none⟩ = some (.slice none 0 0) ∧ w'.cell? ⟨q, 4, none⟩ = some (.slice none 0 0) ∧ w'.cell? ⟨q, 5, none⟩ = some (.slice none 0 0) ∧ w'.cell? ⟨q, 6, none⟩ = some (.slice (some ⟨qi, 0, none⟩) 1 1) ∧ w'.cell? ⟨q, 7, none⟩ = some (.string ⟨#[]⟩) ∧ w'.cell? ⟨q, 8, none⟩ = some (.slice none 0 0) ∧ w'.cell? ⟨q, 9, none⟩ = some (.slice none 0 0) ∧ w'.cell? ⟨q, 10, none⟩ = some (.slice none 0 0) ∧ w'.cell? ⟨q, 11, none⟩ = some (.bool false) ∧ w'.cell? ⟨q, 12, none⟩ = some (.slice none 0 0))
            (first | exact ⟨cell_later hC z0, cell_later hC z1, cell_later hC z2, cell_later hC z3, cell_later hC z4, cell_later hC z5, cell_later hC z6, cell_later hC z7, cell_later hC z8, cell_later hC z9, cell_later hC z10, cell_later hC z11, cell_later hC z12⟩)
            (first
            | (go_at_call 7; with_reducible refine Calls.mono (HS.out _) ?_; rintro e y1 ⟨b, rfl, hT, -, hb1⟩; replace hC := Below.on hC hb1; have HT : Hid _ := hid hT; clear hT)
            | (go_at_call 6; with_reducible refine Calls.mono (HCk.out _ _ _ HT.out (HQ.out _ hC) rfl) ?_; rintro e y2 ⟨rfl, hb2⟩; replace hC := Below.on hC hb2))
          all_goals
            go_wp2
            go_ret
            exact ⟨rfl, Below.on hw hC⟩
        · simp [wantA] at hXX
          subst hXX
          clear HX
          have hC : Below Y.heap.size Y Y.drew := (Below.refl _ Y).drew
          go_wp2
          go_region_held (fun w' => w'.cell? ⟨q, 0, none⟩ = some (.int .i64 6) ∧ w'.cell? ⟨q, 1, none⟩ = some (.string ⟨#[116]⟩) ∧ w'.cell? ⟨q, 2, none⟩ = some (.string ⟨#[]⟩) ∧ w'.cell? ⟨q, 3, none⟩ = some (.slice none 0 0) ∧ w'.cell? ⟨q, 4, none⟩ = some (.slice none 0 0) ∧ w'.cell? ⟨q, 5, none⟩ = some (.slice none 0 0) ∧ w'.cell? ⟨q, 6, none⟩ = some (.slice (some ⟨qi, 0, none⟩) 1 1) ∧ w'.cell? ⟨q, 7, none⟩ = some (.string ⟨#[]⟩) ∧ w'.cell? ⟨q, 8, none⟩ = some (.slice none 0 0) ∧ w'.cell? ⟨q, 9, none⟩ = some (.slice none 0 0) ∧ w'.cell? ⟨q, 10, none⟩ = some (.slice none 0 0) ∧ w'.cell? ⟨q, 11, none⟩ = some (.bool false) ∧ w'.cell? ⟨q, 12, none⟩ = some (.slice none 0 0))
            (first | exact ⟨cell_later hC z0, cell_later hC z1, cell_later hC z2, cell_later hC z3, cell_later hC z4, cell_later hC z5, cell_later hC z6, cell_later hC z7, cell_later hC z8, cell_later hC z9, cell_later hC z10, cell_later hC z11, cell_later hC z12⟩)
            (first
            | (go_at_call 7; with_reducible refine Calls.mono (HS.out _) ?_; rintro e y1 ⟨b, rfl, hT, -, hb1⟩; replace hC := Below.on hC hb1; have HT : Hid _ := hid hT; clear hT)
            | (go_at_call 6; with_reducible refine Calls.mono (HCk.out _ _ _ HT.out (HQ.out _ hC) rfl) ?_; rintro e y2 ⟨rfl, hb2⟩; replace hC := Below.on hC hb2))
          all_goals
            go_wp2
            go_ret
            exact ⟨rfl, Below.on hw hC⟩
        · have e2 : decide (a = 2) = false := by simpa using g2
          have e0 : decide (a = 0) = false := by simpa using g0
          rw [e2, e0] at hXX
          simp [wantA] at hXX
          subst hXX
          clear HX
          have hC : Below Y.heap.size Y Y.drew := (Below.refl _ Y).drew
          go_wp2
          go_region_held (fun w' => w'.cell? ⟨q, 0, none⟩ = some (.int .i64 6) ∧ w'.cell? ⟨q, 1, none⟩ = some (.string ⟨#[116]⟩) ∧ w'.cell? ⟨q, 2, none⟩ = some (.string ⟨#[]⟩) ∧ w'.cell? ⟨q, 3, none⟩ = some (.slice none 0 0) ∧ w'.cell? ⟨q, 4, none⟩ = some (.slice none 0 0) ∧ w'.cell? ⟨q, 5, none⟩ = some (.slice none 0 0) ∧ w'.cell? ⟨q, 6, none⟩ = some (.slice (some ⟨qi, 0, none⟩) 1 1) ∧ w'.cell? ⟨q, 7, none⟩ = some (.string ⟨#[]⟩) ∧ w'.cell? ⟨q, 8, none⟩ = some (.slice none 0 0) ∧ w'.cell? ⟨q, 9, none⟩ = some (.slice none 0 0) ∧ w'.cell? ⟨q, 10, none⟩ = some (.slice none 0 0) ∧ w'.cell? ⟨q, 11, none⟩ = some (.bool false) ∧ w'.cell? ⟨q, 12, none⟩ = some (.slice none 0 0))
            (first | exact ⟨cell_later hC z0, cell_later hC z1, cell_later hC z2, cell_later hC z3, cell_later hC z4, cell_later hC z5, cell_later hC z6, cell_later hC z7, cell_later hC z8, cell_later hC z9, cell_later hC z10, cell_later hC z11, cell_later hC z12⟩)
            (first
            | (go_at_call 7; with_reducible refine Calls.mono (HS.out _) ?_; rintro e y1 ⟨b, rfl, hT, -, hb1⟩; replace hC := Below.on hC hb1; have HT : Hid _ := hid hT; clear hT)
            | (go_at_call 6; with_reducible refine Calls.mono (HCk.out _ _ _ HT.out (HQ.out _ hC) rfl) ?_; rintro e y2 ⟨rfl, hb2⟩; replace hC := Below.on hC hb2))
          all_goals
            go_wp2
            go_ret
            exact ⟨rfl, Below.on hw hC⟩
      | true =>
        have b1 := (Bk.new U1 (.cells #[.int .i64 a, .string ⟨#[]⟩, .string nm] 25)).later (bal (Below.refl _ _) (.cells #[.int .i64 6, .string ⟨#[116]⟩, .string ⟨#[]⟩, .slice none 0 0, .slice none 0 0, .slice none 0 0, .slice (some ⟨U1.heap.size, 0, none⟩) 1 1, .string ⟨#[]⟩, .slice none 0 0, .slice none 0 0, .slice none 0 0, .bool false, .slice none 0 0] 32))
        have b2 := Bk.new (U1.alloc (.cells #[.int .i64 a, .string ⟨#[]⟩, .string nm] 25)) (.cells #[.int .i64 6, .string ⟨#[116]⟩, .string ⟨#[]⟩, .slice none 0 0, .slice none 0 0, .slice none 0 0, .slice (some ⟨U1.heap.size, 0, none⟩) 1 1, .string ⟨#[]⟩, .slice none 0 0, .slice none 0 0, .slice none 0 0, .bool false, .slice none 0 0] 32)
        have hb2 := bal (bal (Below.refl U1.heap.size U1) (.cells #[.int .i64 a, .string ⟨#[]⟩, .string nm] 25)) (.cells #[.int .i64 6, .string ⟨#[116]⟩, .string ⟨#[]⟩, .slice none 0 0, .slice none 0 0, .slice none 0 0, .slice (some ⟨U1.heap.size, 0, none⟩) 1 1, .string ⟨#[]⟩, .slice none 0 0, .slice none 0 0, .slice none 0 0, .bool false, .slice none 0 0] 32)
        rw [World.size_alloc] at b2
        go_upto_region 8 with fail
        generalize (U1.alloc (.cells #[.int .i64 a, .string ⟨#[]⟩, .string nm] 25)).alloc (.cells #[.int .i64 6, .string ⟨#[116]⟩, .string ⟨#[]⟩, .slice none 0 0, .slice none 0 0, .slice none 0 0, .slice (some ⟨U1.heap.size, 0, none⟩) 1 1, .string ⟨#[]⟩, .slice none 0 0, .slice none 0 0, .slice none 0 0, .bool false, .slice none 0 0] 32) = Z at *
        replace hw := Below.on hw hb2
        have hqo : U1.heap.size < U1.heap.size + 1 := by omega
        have hlq := b2.lt
        generalize U1.heap.size + 1 = q at *
        generalize U1.heap.size = qi at *
        clear hb2
        have hO : OwnR 25 3 qi Z (.slice (some ⟨qi, 0, none⟩) 1 1) [[.int .i64 a, .string ⟨#[]⟩, .string nm]] := OwnR.bk b1 rfl (Nat.le_refl _)
        clear b1
        go_upto_region 10 with fail
        have hnq : (Value.slice (some ⟨qi, 0, none⟩) 1 1).ownBlock ≠ some q := by simp [Value.ownBlock]; omega
        go_wp2_with fail
        refine Calls.mono (HCo.out _ _ _) ?_
        rintro e V3 ⟨rfl, hv3⟩
        replace b2 := b2.later hv3
        replace hO := hO.later hv3
        replace hw := Below.on hw hv3
        have hq3 := b2.lt
        have hI := bal (Below.refl V3.heap.size V3) (.cells #[.int .i64 2, .int .i64 0, .int .i64 0, .string ⟨#[]⟩, .string ⟨#[]⟩, .string ⟨#[107]⟩, .slice none 0 0] 36)
        have b2x := b2.later hI
        have f10 := b2x.free 10
        have z10 : (V3.alloc (.cells #[.int .i64 2, .int .i64 0, .int .i64 0, .string ⟨#[]⟩, .string ⟨#[]⟩, .string ⟨#[107]⟩, .slice none 0 0] 36)).cell? ⟨q, 10, none⟩ = some (.slice none 0 0) := b2x.cell 10
        go_upto_region 12 with fail
        clear b2x f10 z10
        replace hw := hw.setCell (show w.heap.size ≤ (⟨q, 10, none⟩ : Addr).block by show w.heap.size ≤ q; omega) (.slice (some ⟨V3.heap.size, 0, none⟩) 1 1)
        replace b2 := b2.putA 10 (.slice (some ⟨V3.heap.size, 0, none⟩) 1 1)
        replace hO := hO.putA (o := 10) (x := (.slice (some ⟨V3.heap.size, 0, none⟩) 1 1)) hnq
        have hs : (V3.setCell ⟨q, 10, none⟩ (.slice (some ⟨V3.heap.size, 0, none⟩) 1 1)).heap.size = V3.heap.size := by simp [World.setCell]
        have b3 := Bk.new (V3.setCell ⟨q, 10, none⟩ (.slice (some ⟨V3.heap.size, 0, none⟩) 1 1)) (.cells #[.int .i64 2, .int .i64 0, .int .i64 0, .string ⟨#[]⟩, .string ⟨#[]⟩, .string ⟨#[107]⟩, .slice none 0 0] 36)
        replace hI := bal (Below.refl _ (V3.setCell ⟨q, 10, none⟩ (.slice (some ⟨V3.heap.size, 0, none⟩) 1 1))) (.cells #[.int .i64 2, .int .i64 0, .int .i64 0, .string ⟨#[]⟩, .string ⟨#[]⟩, .string ⟨#[107]⟩, .slice none 0 0] 36)
        rw [hs] at b3
        replace b2 := b2.later hI
        replace hO := hO.later hI
        replace hw := bal hw (.cells #[.int .i64 2, .int .i64 0, .int .i64 0, .string ⟨#[]⟩, .string ⟨#[]⟩, .string ⟨#[107]⟩, .slice none 0 0] 36)
        generalize (V3.setCell ⟨q, 10, none⟩ (.slice (some ⟨V3.heap.size, 0, none⟩) 1 1)).alloc (.cells #[.int .i64 2, .int .i64 0, .int .i64 0, .string ⟨#[]⟩, .string ⟨#[]⟩, .string ⟨#[107]⟩, .slice none 0 0] 36) = Y at *
        generalize V3.heap.size = qc at *
        clear hs hI hv3 hq3
        have HQ : Hid (∀ w1, Below Y.heap.size Y w1 → IsQ w1 (aggM nm a false true) ⟨6, ⟨#[116]⟩, ⟨#[]⟩, (none, 0, 0), (none, 0, 0), (none, 0, 0), (some ⟨qi, 0, none⟩, 1, 1), ⟨#[]⟩, (none, 0, 0), (none, 0, 0), (some ⟨qc, 0, none⟩, 1, 1), false, (none, 0, 0)⟩) := hid fun w1 hb =>
          ⟨rfl, rfl, rfl, rfl, RowIs.nil _ _ _, by
            have h := (OwnR.rowE (e := eItem) (l := [(a, ⟨#[]⟩, nm)]) (hO.later hb) rfl (fun _ _ _ => trivial) fun i h1 h2 => by have hi : i < 1 := h1; (match i, hi with | 0, _ => rfl))
            rw [show (aggM nm a false true).items = [(a, ⟨#[]⟩, nm)] from by unfold aggM aggN; rw [if_neg h1]; rfl]; exact h, RowIs.nil _ _ _, RowIs.nil _ _ _, row1_g (x := (colG3 ⟨#[]⟩ ⟨#[107]⟩, .nil)) (show Ce w1 qc 0 2 (0, 0, ⟨#[]⟩, ⟨#[]⟩, ⟨#[107]⟩) (.slice none 0 0) from ⟨(b3.later hb).cell 0, (b3.later hb).cell 1, (b3.later hb).cell 2, (b3.later hb).cell 3, (b3.later hb).cell 4, (b3.later hb).cell 5, (b3.later hb).cell 6⟩) (SlF.nil _ _)⟩
        have z0 : Y.cell? ⟨q, 0, none⟩ = some (.int .i64 6) := b2.cell 0
        have z1 : Y.cell? ⟨q, 1, none⟩ = some (.string ⟨#[116]⟩) := b2.cell 1
        have z2 : Y.cell? ⟨q, 2, none⟩ = some (.string ⟨#[]⟩) := b2.cell 2
        have z3 : Y.cell? ⟨q, 3, none⟩ = some (.slice none 0 0) := b2.cell 3
        have z4 : Y.cell? ⟨q, 4, none⟩ = some (.slice none 0 0) := b2.cell 4
        have z5 : Y.cell? ⟨q, 5, none⟩ = some (.slice none 0 0) := b2.cell 5
        have z6 : Y.cell? ⟨q, 6, none⟩ = some (.slice (some ⟨qi, 0, none⟩) 1 1) := b2.cell 6
        have z7 : Y.cell? ⟨q, 7, none⟩ = some (.string ⟨#[]⟩) := b2.cell 7
        have z8 : Y.cell? ⟨q, 8, none⟩ = some (.slice none 0 0) := b2.cell 8
        have z9 : Y.cell? ⟨q, 9, none⟩ = some (.slice none 0 0) := b2.cell 9
        have z10 : Y.cell? ⟨q, 10, none⟩ = some (.slice (some ⟨qc, 0, none⟩) 1 1) := b2.cell 10
        have z11 : Y.cell? ⟨q, 11, none⟩ = some (.bool false) := b2.cell 11
        have z12 : Y.cell? ⟨q, 12, none⟩ = some (.slice none 0 0) := b2.cell 12
        clear b2 hO hnq b3
        have hcase : (a = 2 ∧ bv = true) ∨ (a = 2 ∧ bv = false) ∨ a = 0 ∨ (¬ a = 2 ∧ ¬ a = 0) := by
          by_cases g2 : a = 2
          · cases bv
            · exact .inr (.inl ⟨g2, rfl⟩)
            · exact .inl ⟨g2, rfl⟩
          · by_cases g0 : a = 0
            · exact .inr (.inr (.inl g0))
            · exact .inr (.inr (.inr ⟨g2, g0⟩))
        have hXX := HX.out
        rcases hcase with ⟨rfl, rfl⟩ | ⟨rfl, rfl⟩ | rfl | ⟨g2, g0⟩
        · simp [wantA] at hXX
          subst hXX
          clear HX
          have hC : Below Y.heap.size Y Y.drew := (Below.refl _ Y).drew
          go_wp2
          go_region_held (fun w' => w'.cell? ⟨q, 0, none⟩ = some (.int .i64 6) ∧ w'.cell? ⟨q, 1, none⟩ = some (.string ⟨#[116]⟩) ∧ w'.cell? ⟨q, 2, none⟩ = some (.string ⟨#[]⟩) ∧ w'.cell? ⟨q, 3, none⟩ = some (.slice none 0 0) ∧ w'.cell? ⟨q, 4, none⟩ = some (.slice none 0 0) ∧ w'.cell? ⟨q, 5, none⟩ = some (.slice none 0 0) ∧ w'.cell? ⟨q, 6, none⟩ = some (.slice (some ⟨qi, 0, none⟩) 1 1) ∧ w'.cell? ⟨q, 7, none⟩ = some (.string ⟨#[]⟩) ∧ w'.cell? ⟨q, 8, none⟩ = some (.slice none 0 0) ∧ w'.cell? ⟨q, 9, none⟩ = some (.slice none 0 0) ∧ w'.cell? ⟨q, 10, none⟩ = some (.slice (some ⟨qc, 0, none⟩) 1 1) ∧ w'.cell? ⟨q, 11, none⟩ = some (.bool false) ∧ w'.cell? ⟨q, 12, none⟩ = some (.slice none 0 0))
            (first | exact ⟨cell_later hC z0, cell_later hC z1, cell_later hC z2, cell_later hC z3, cell_later hC z4, cell_later hC z5, cell_later hC z6, cell_later hC z7, cell_later hC z8, cell_later hC z9, cell_later hC z10, cell_later hC z11, cell_later hC z12⟩)
            (first
            | (go_at_call 7; with_reducible refine Calls.mono (HS.out _) ?_; rintro e y1 ⟨b, rfl, hT, -, hb1⟩; replace hC := Below.on hC hb1; have HT : Hid _ := hid hT; clear hT)
            | (go_at_call 6; with_reducible refine Calls.mono (HCk.out _ _ _ HT.out (HQ.out _ hC) rfl) ?_; rintro e y2 ⟨rfl, hb2⟩; replace hC := Below.on hC hb2))
          all_goals
            go_wp2
            go_ret
            exact ⟨rfl, Below.on hw hC⟩
        · simp [wantA] at hXX
          subst hXX
          clear HX
          have hC : Below Y.heap.size Y Y.drew := (Below.refl _ Y).drew
          go_wp2
          go_region_held (fun w' => w'.cell? ⟨q, 0, none⟩ = some (.int .i64 6) ∧ w'.cell? ⟨q, 1, none⟩ = some (.string ⟨#[116]⟩) ∧ w'.cell? ⟨q, 2, none⟩ = some (.string ⟨#[]⟩) ∧ w'.cell? ⟨q, 3, none⟩ = some (.slice none 0 0) ∧ w'.cell? ⟨q, 4, none⟩ = some (.slice none 0 0) ∧ w'.cell? ⟨q, 5, none⟩ = some (.slice none 0 0) ∧ w'.cell? ⟨q, 6, none⟩ = some (.slice (some ⟨qi, 0, none⟩) 1 1) ∧ w'.cell? ⟨q, 7, none⟩ = some (.string ⟨#[]⟩) ∧ w'.cell? ⟨q, 8, none⟩ = some (.slice none 0 0) ∧ w'.cell? ⟨q, 9, none⟩ = some (.slice none 0 0) ∧ w'.cell? ⟨q, 10, none⟩ = some (.slice (some ⟨qc, 0, none⟩) 1 1) ∧ w'.cell? ⟨q, 11, none⟩ = some (.bool false) ∧ w'.cell? ⟨q, 12, none⟩ = some (.slice none 0 0))
            (first | exact ⟨cell_later hC z0, cell_later hC z1, cell_later hC z2, cell_later hC z3, cell_later hC z4, cell_later hC z5, cell_later hC z6, cell_later hC z7, cell_later hC z8, cell_later hC z9, cell_later hC z10, cell_later hC z11, cell_later hC z12⟩)
            (first
            | (go_at_call 7; with_reducible refine Calls.mono (HS.out _) ?_; rintro e y1 ⟨b, rfl, hT, -, hb1⟩; replace hC := Below.on hC hb1; have HT : Hid _ := hid hT; clear hT)
            | (go_at_call 6; with_reducible refine Calls.mono (HCk.out _ _ _ HT.out (HQ.out _ hC) rfl) ?_; rintro e y2 ⟨rfl, hb2⟩; replace hC := Below.on hC hb2))
          all_goals
            go_wp2
            go_ret
            exact ⟨rfl, Below.on hw hC⟩
        · simp [wantA] at hXX
          subst hXX
          clear HX
          have hC : Below Y.heap.size Y Y.drew := (Below.refl _ Y).drew
          go_wp2
          go_region_held (fun w' => w'.cell? ⟨q, 0, none⟩ = some (.int .i64 6) ∧ w'.cell? ⟨q, 1, none⟩ = some (.string ⟨#[116]⟩) ∧ w'.cell? ⟨q, 2, none⟩ = some (.string ⟨#[]⟩) ∧ w'.cell? ⟨q, 3, none⟩ = some (.slice none 0 0) ∧ w'.cell? ⟨q, 4, none⟩ = some (.slice none 0 0) ∧ w'.cell? ⟨q, 5, none⟩ = some (.slice none 0 0) ∧ w'.cell? ⟨q, 6, none⟩ = some (.slice (some ⟨qi, 0, none⟩) 1 1) ∧ w'.cell? ⟨q, 7, none⟩ = some (.string ⟨#[]⟩) ∧ w'.cell? ⟨q, 8, none⟩ = some (.slice none 0 0) ∧ w'.cell? ⟨q, 9, none⟩ = some (.slice none 0 0) ∧ w'.cell? ⟨q, 10, none⟩ = some (.slice (some ⟨qc, 0, none⟩) 1 1) ∧ w'.cell? ⟨q, 11, none⟩ = some (.bool false) ∧ w'.cell? ⟨q, 12, none⟩ = some (.slice none 0 0))
            (first | exact ⟨cell_later hC z0, cell_later hC z1, cell_later hC z2, cell_later hC z3, cell_later hC z4, cell_later hC z5, cell_later hC z6, cell_later hC z7, cell_later hC z8, cell_later hC z9, cell_later hC z10, cell_later hC z11, cell_later hC z12⟩)
            (first
            | (go_at_call 7; with_reducible refine Calls.mono (HS.out _) ?_; rintro e y1 ⟨b, rfl, hT, -, hb1⟩; replace hC := Below.on hC hb1; have HT : Hid _ := hid hT; clear hT)
            | (go_at_call 6; with_reducible refine Calls.mono (HCk.out _ _ _ HT.out (HQ.out _ hC) rfl) ?_; rintro e y2 ⟨rfl, hb2⟩; replace hC := Below.on hC hb2))
          all_goals
            go_wp2
            go_ret
            exact ⟨rfl, Below.on hw hC⟩
        · have e2 : decide (a = 2) = false := by simpa using g2
          have e0 : decide (a = 0) = false := by simpa using g0
          rw [e2, e0] at hXX
          simp [wantA] at hXX
          subst hXX
          clear HX
          have hC : Below Y.heap.size Y Y.drew := (Below.refl _ Y).drew
          go_wp2
          go_region_held (fun w' => w'.cell? ⟨q, 0, none⟩ = some (.int .i64 6) ∧ w'.cell? ⟨q, 1, none⟩ = some (.string ⟨#[116]⟩) ∧ w'.cell? ⟨q, 2, none⟩ = some (.string ⟨#[]⟩) ∧ w'.cell? ⟨q, 3, none⟩ = some (.slice none 0 0) ∧ w'.cell? ⟨q, 4, none⟩ = some (.slice none 0 0) ∧ w'.cell? ⟨q, 5, none⟩ = some (.slice none 0 0) ∧ w'.cell? ⟨q, 6, none⟩ = some (.slice (some ⟨qi, 0, none⟩) 1 1) ∧ w'.cell? ⟨q, 7, none⟩ = some (.string ⟨#[]⟩) ∧ w'.cell? ⟨q, 8, none⟩ = some (.slice none 0 0) ∧ w'.cell? ⟨q, 9, none⟩ = some (.slice none 0 0) ∧ w'.cell? ⟨q, 10, none⟩ = some (.slice (some ⟨qc, 0, none⟩) 1 1) ∧ w'.cell? ⟨q, 11, none⟩ = some (.bool false) ∧ w'.cell? ⟨q, 12, none⟩ = some (.slice none 0 0))
            (first | exact ⟨cell_later hC z0, cell_later hC z1, cell_later hC z2, cell_later hC z3, cell_later hC z4, cell_later hC z5, cell_later hC z6, cell_later hC z7, cell_later hC z8, cell_later hC z9, cell_later hC z10, cell_later hC z11, cell_later hC z12⟩)
            (first
            | (go_at_call 7; with_reducible refine Calls.mono (HS.out _) ?_; rintro e y1 ⟨b, rfl, hT, -, hb1⟩; replace hC := Below.on hC hb1; have HT : Hid _ := hid hT; clear hT)
            | (go_at_call 6; with_reducible refine Calls.mono (HCk.out _ _ _ HT.out (HQ.out _ hC) rfl) ?_; rintro e y2 ⟨rfl, hb2⟩; replace hC := Below.on hC hb2))
          all_goals
            go_wp2
            go_ret
            exact ⟨rfl, Below.on hw hC⟩
    | true =>
      cases order with
      | false =>
        have b1 := (Bk.new U1 (.cells #[.int .i64 a, .string ⟨#[]⟩, .string nm] 25)).later (bal (Below.refl _ _) (.cells #[.int .i64 6, .string ⟨#[116]⟩, .string ⟨#[]⟩, .slice none 0 0, .slice none 0 0, .slice none 0 0, .slice (some ⟨U1.heap.size, 0, none⟩) 1 1, .string ⟨#[]⟩, .slice none 0 0, .slice none 0 0, .slice none 0 0, .bool false, .slice none 0 0] 32))
        have b2 := Bk.new (U1.alloc (.cells #[.int .i64 a, .string ⟨#[]⟩, .string nm] 25)) (.cells #[.int .i64 6, .string ⟨#[116]⟩, .string ⟨#[]⟩, .slice none 0 0, .slice none 0 0, .slice none 0 0, .slice (some ⟨U1.heap.size, 0, none⟩) 1 1, .string ⟨#[]⟩, .slice none 0 0, .slice none 0 0, .slice none 0 0, .bool false, .slice none 0 0] 32)
        have hb2 := bal (bal (Below.refl U1.heap.size U1) (.cells #[.int .i64 a, .string ⟨#[]⟩, .string nm] 25)) (.cells #[.int .i64 6, .string ⟨#[116]⟩, .string ⟨#[]⟩, .slice none 0 0, .slice none 0 0, .slice none 0 0, .slice (some ⟨U1.heap.size, 0, none⟩) 1 1, .string ⟨#[]⟩, .slice none 0 0, .slice none 0 0, .slice none 0 0, .bool false, .slice none 0 0] 32)
        rw [World.size_alloc] at b2
        go_upto_region 8 with fail
        generalize (U1.alloc (.cells #[.int .i64 a, .string ⟨#[]⟩, .string nm] 25)).alloc (.cells #[.int .i64 6, .string ⟨#[116]⟩, .string ⟨#[]⟩, .slice none 0 0, .slice none 0 0, .slice none 0 0, .slice (some ⟨U1.heap.size, 0, none⟩) 1 1, .string ⟨#[]⟩, .slice none 0 0, .slice none 0 0, .slice none 0 0, .bool false, .slice none 0 0] 32) = Z at *
        replace hw := Below.on hw hb2
        have hqo : U1.heap.size < U1.heap.size + 1 := by omega
        have hlq := b2.lt
        generalize U1.heap.size + 1 = q at *
        generalize U1.heap.size = qi at *
        clear hb2
        have hO : OwnR 25 3 qi Z (.slice (some ⟨qi, 0, none⟩) 1 1) [[.int .i64 a, .string ⟨#[]⟩, .string nm]] := OwnR.bk b1 rfl (Nat.le_refl _)
        clear b1
        have hI := bal (Below.refl Z.heap.size Z) (.cells #[.int .i64 0, .string ⟨#[]⟩, .string ⟨#[107]⟩] 25)
        have ho2 := hO.later hI
        have b2x := b2.later hI
        have z6 := b2.cell 6
        simp only [List.getElem?_toArray, List.getElem?_cons_zero, List.getElem?_cons_succ] at z6
        have hwI := bal hw (.cells #[.int .i64 0, .string ⟨#[]⟩, .string ⟨#[107]⟩] 25)
        have hBI : qi ≤ (Z.alloc (.cells #[.int .i64 0, .string ⟨#[]⟩, .string ⟨#[107]⟩] 25)).heap.size := by rw [World.size_alloc]; omega
        go_wp2_with (first | (at_builtin; go_must (refine wpList_appR Tryz.underlying26 Tryz.infoTItem rfl (by decide) (by decide) rfl (.tmp 36) (.tmp 38) rfl _ [[.int .i64 a, .string ⟨#[]⟩, .string nm]] Z.heap.size [.int .i64 0, .string ⟨#[]⟩, .string ⟨#[107]⟩] rfl rfl ho2 rfl (by simp [Value.oneCell']) (new3 Z _ _ _ _) (by simp) hBI ?_)) | fail)
        intro v' w6 hO6 hg6 hown
        have hb6 : Below w.heap.size w w6 := below_grows hwI hwI.size hg6 fun k e => by simp [Value.ownBlock] at e; omega
        have hq6 : w6.heap[q]? = (Z.alloc (.cells #[.int .i64 0, .string ⟨#[]⟩, .string ⟨#[107]⟩] 25)).heap[q]? := hg6.block q (by rw [World.size_alloc]; omega) (by simp [Value.ownBlock]; omega)
        have b2y : Bk w6 q _ := ⟨hq6.trans b2x.row⟩
        obtain ⟨ia, im, id, rfl⟩ := hO6.sl
        have hnq : (Value.slice ia im id).ownBlock ≠ some q := by
          rcases hown with h | h
          · rw [h]; simp [Value.ownBlock]; omega
          · rw [h]; simp; omega
        clear z6 ho2 b2x hI hwI hBI hg6 hown hq6 hO b2
        have f6 := b2y.free 6
        have z6 := b2y.cell 6
        simp only [List.getElem?_toArray, List.getElem?_cons_zero, List.getElem?_cons_succ] at z6
        go_upto_region 10 with fail
        have b2 := b2y.putA 6 (.slice ia im id)
        have hO := hO6.putA (o := 6) (x := .slice ia im id) hnq
        replace hw := hb6.setCell (show w.heap.size ≤ (⟨q, 6, none⟩ : Addr).block by show w.heap.size ≤ q; omega) (.slice ia im id)
        generalize w6.setCell ⟨q, 6, none⟩ (.slice ia im id) = Z1 at *
        clear f6 z6 b2y hO6 hb6
        go_upto_region 12 with fail
        generalize Z1 = Y at *
        have HQ : Hid (∀ w1, Below Y.heap.size Y w1 → IsQ w1 (aggM nm a true false) ⟨6, ⟨#[116]⟩, ⟨#[]⟩, (none, 0, 0), (none, 0, 0), (none, 0, 0), (ia, im, id), ⟨#[]⟩, (none, 0, 0), (none, 0, 0), (none, 0, 0), false, (none, 0, 0)⟩) := hid fun w1 hb =>
          ⟨rfl, rfl, rfl, rfl, RowIs.nil _ _ _, by
            have h := (OwnR.rowE (e := eItem) (l := [(a, ⟨#[]⟩, nm), (0, ⟨#[]⟩, ⟨#[107]⟩)]) (hO.later hb) rfl (fun _ _ _ => trivial) fun i h1 h2 => by have hi : i < 2 := h1; (match i, hi with | 0, _ => rfl | 1, _ => rfl))
            rw [show (aggM nm a true false).items = [(a, ⟨#[]⟩, nm), (0, ⟨#[]⟩, ⟨#[107]⟩)] from by unfold aggM aggN; rw [if_neg h1]; rfl]; exact h, RowIs.nil _ _ _, RowIs.nil _ _ _, RowIs.nil _ _ _⟩
        have z0 : Y.cell? ⟨q, 0, none⟩ = some (.int .i64 6) := b2.cell 0
        have z1 : Y.cell? ⟨q, 1, none⟩ = some (.string ⟨#[116]⟩) := b2.cell 1
        have z2 : Y.cell? ⟨q, 2, none⟩ = some (.string ⟨#[]⟩) := b2.cell 2
        have z3 : Y.cell? ⟨q, 3, none⟩ = some (.slice none 0 0) := b2.cell 3
        have z4 : Y.cell? ⟨q, 4, none⟩ = some (.slice none 0 0) := b2.cell 4
        have z5 : Y.cell? ⟨q, 5, none⟩ = some (.slice none 0 0) := b2.cell 5
        have z6 : Y.cell? ⟨q, 6, none⟩ = some (.slice ia im id) := b2.cell 6
        have z7 : Y.cell? ⟨q, 7, none⟩ = some (.string ⟨#[]⟩) := b2.cell 7
        have z8 : Y.cell? ⟨q, 8, none⟩ = some (.slice none 0 0) := b2.cell 8
        have z9 : Y.cell? ⟨q, 9, none⟩ = some (.slice none 0 0) := b2.cell 9
        have z10 : Y.cell? ⟨q, 10, none⟩ = some (.slice none 0 0) := b2.cell 10
        have z11 : Y.cell? ⟨q, 11, none⟩ = some (.bool false) := b2.cell 11
        have z12 : Y.cell? ⟨q, 12, none⟩ = some (.slice none 0 0) := b2.cell 12
        clear b2 hO hnq
        have hcase : (a = 2 ∧ bv = true) ∨ (a = 2 ∧ bv = false) ∨ a = 0 ∨ (¬ a = 2 ∧ ¬ a = 0) := by
          by_cases g2 : a = 2
          · cases bv
            · exact .inr (.inl ⟨g2, rfl⟩)
            · exact .inl ⟨g2, rfl⟩
          · by_cases g0 : a = 0
            · exact .inr (.inr (.inl g0))
            · exact .inr (.inr (.inr ⟨g2, g0⟩))
        have hXX := HX.out
        rcases hcase with ⟨rfl, rfl⟩ | ⟨rfl, rfl⟩ | rfl | ⟨g2, g0⟩
        · simp [wantA] at hXX
          subst hXX
          clear HX
          have hC : Below Y.heap.size Y Y.drew := (Below.refl _ Y).drew
          go_wp2
          go_region_held (fun w' => w'.cell? ⟨q, 0, none⟩ = some (.int .i64 6) ∧ w'.cell? ⟨q, 1, none⟩ = some (.string ⟨#[116]⟩) ∧ w'.cell? ⟨q, 2, none⟩ = some (.string ⟨#[]⟩) ∧ w'.cell? ⟨q, 3, none⟩ = some (.slice none 0 0) ∧ w'.cell? ⟨q, 4, none⟩ = some (.slice none 0 0) ∧ w'.cell? ⟨q, 5, none⟩ = some (.slice none 0 0) ∧ w'.cell? ⟨q, 6, none⟩ = some (.slice ia im id) ∧ w'.cell? ⟨q, 7, none⟩ = some (.string ⟨#[]⟩) ∧ w'.cell? ⟨q, 8, none⟩ = some (.slice none 0 0) ∧ w'.cell? ⟨q, 9, none⟩ = some (.slice none 0 0) ∧ w'.cell? ⟨q, 10, none⟩ = some (.slice none 0 0) ∧ w'.cell? ⟨q, 11, none⟩ = some (.bool false) ∧ w'.cell? ⟨q, 12, none⟩ = some (.slice none 0 0))
            (first | exact ⟨cell_later hC z0, cell_later hC z1, cell_later hC z2, cell_later hC z3, cell_later hC z4, cell_later hC z5, cell_later hC z6, cell_later hC z7, cell_later hC z8, cell_later hC z9, cell_later hC z10, cell_later hC z11, cell_later hC z12⟩)
            (first
            | (go_at_call 7; with_reducible refine Calls.mono (HS.out _) ?_; rintro e y1 ⟨b, rfl, hT, -, hb1⟩; replace hC := Below.on hC hb1; have HT : Hid _ := hid hT; clear hT)
            | (go_at_call 6; with_reducible refine Calls.mono (HCk.out _ _ _ HT.out (HQ.out _ hC) rfl) ?_; rintro e y2 ⟨rfl, hb2⟩; replace hC := Below.on hC hb2))
          all_goals
            go_wp2
            go_ret
            exact ⟨rfl, Below.on hw hC⟩
        · simp [wantA] at hXX
          subst hXX
          clear HX
          have hC : Below Y.heap.size Y Y.drew := (Below.refl _ Y).drew
          go_wp2
          go_region_held (fun w' => w'.cell? ⟨q, 0, none⟩ = some (.int .i64 6) ∧ w'.cell? ⟨q, 1, none⟩ = some (.string ⟨#[116]⟩) ∧ w'.cell? ⟨q, 2, none⟩ = some (.string ⟨#[]⟩) ∧ w'.cell? ⟨q, 3, none⟩ = some (.slice none 0 0) ∧ w'.cell? ⟨q, 4, none⟩ = some (.slice none 0 0) ∧ w'.cell? ⟨q, 5, none⟩ = some (.slice none 0 0) ∧ w'.cell? ⟨q, 6, none⟩ = some (.slice ia im id) ∧ w'.cell? ⟨q, 7, none⟩ = some (.string ⟨#[]⟩) ∧ w'.cell? ⟨q, 8, none⟩ = some (.slice none 0 0) ∧ w'.cell? ⟨q, 9, none⟩ = some (.slice none 0 0) ∧ w'.cell? ⟨q, 10, none⟩ = some (.slice none 0 0) ∧ w'.cell? ⟨q, 11, none⟩ = some (.bool false) ∧ w'.cell? ⟨q, 12, none⟩ = some (.slice none 0 0))
            (first | exact ⟨cell_later hC z0, cell_later hC z1, cell_later hC z2, cell_later hC z3, cell_later hC z4, cell_later hC z5, cell_later hC z6, cell_later hC z7, cell_later hC z8, cell_later hC z9, cell_later hC z10, cell_later hC z11, cell_later hC z12⟩)
            (first
            | (go_at_call 7; with_reducible refine Calls.mono (HS.out _) ?_; rintro e y1 ⟨b, rfl, hT, -, hb1⟩; replace hC := Below.on hC hb1; have HT : Hid _ := hid hT; clear hT)
            | (go_at_call 6; with_reducible refine Calls.mono (HCk.out _ _ _ HT.out (HQ.out _ hC) rfl) ?_; rintro e y2 ⟨rfl, hb2⟩; replace hC := Below.on hC hb2))
          all_goals
            go_wp2
            go_ret
            exact ⟨rfl, Below.on hw hC⟩
        · simp [wantA] at hXX
          subst hXX
          clear HX
          have hC : Below Y.heap.size Y Y.drew := (Below.refl _ Y).drew
          go_wp2
          go_region_held (fun w' => w'.cell? ⟨q, 0, none⟩ = some (.int .i64 6) ∧ w'.cell? ⟨q, 1, none⟩ = some (.string ⟨#[116]⟩) ∧ w'.cell? ⟨q, 2, none⟩ = some (.string ⟨#[]⟩) ∧ w'.cell? ⟨q, 3, none⟩ = some (.slice none 0 0) ∧ w'.cell? ⟨q, 4, none⟩ = some (.slice none 0 0) ∧ w'.cell? ⟨q, 5, none⟩ = some (.slice none 0 0) ∧ w'.cell? ⟨q, 6, none⟩ = some (.slice ia im id) ∧ w'.cell? ⟨q, 7, none⟩ = some (.string ⟨#[]⟩) ∧ w'.cell? ⟨q, 8, none⟩ = some (.slice none 0 0) ∧ w'.cell? ⟨q, 9, none⟩ = some (.slice none 0 0) ∧ w'.cell? ⟨q, 10, none⟩ = some (.slice none 0 0) ∧ w'.cell? ⟨q, 11, none⟩ = some (.bool false) ∧ w'.cell? ⟨q, 12, none⟩ = some (.slice none 0 0))
            (first | exact ⟨cell_later hC z0, cell_later hC z1, cell_later hC z2, cell_later hC z3, cell_later hC z4, cell_later hC z5, cell_later hC z6, cell_later hC z7, cell_later hC z8, cell_later hC z9, cell_later hC z10, cell_later hC z11, cell_later hC z12⟩)
            (first
            | (go_at_call 7; with_reducible refine Calls.mono (HS.out _) ?_; rintro e y1 ⟨b, rfl, hT, -, hb1⟩; replace hC := Below.on hC hb1; have HT : Hid _ := hid hT; clear hT)
            | (go_at_call 6; with_reducible refine Calls.mono (HCk.out _ _ _ HT.out (HQ.out _ hC) rfl) ?_; rintro e y2 ⟨rfl, hb2⟩; replace hC := Below.on hC hb2))
          all_goals
            go_wp2
            go_ret
            exact ⟨rfl, Below.on hw hC⟩
        · have e2 : decide (a = 2) = false := by simpa using g2
          have e0 : decide (a = 0) = false := by simpa using g0
          rw [e2, e0] at hXX
          simp [wantA] at hXX
          subst hXX
          clear HX
          have hC : Below Y.heap.size Y Y.drew := (Below.refl _ Y).drew
          go_wp2
          go_region_held (fun w' => w'.cell? ⟨q, 0, none⟩ = some (.int .i64 6) ∧ w'.cell? ⟨q, 1, none⟩ = some (.string ⟨#[116]⟩) ∧ w'.cell? ⟨q, 2, none⟩ = some (.string ⟨#[]⟩) ∧ w'.cell? ⟨q, 3, none⟩ = some (.slice none 0 0) ∧ w'.cell? ⟨q, 4, none⟩ = some (.slice none 0 0) ∧ w'.cell? ⟨q, 5, none⟩ = some (.slice none 0 0) ∧ w'.cell? ⟨q, 6, none⟩ = some (.slice ia im id) ∧ w'.cell? ⟨q, 7, none⟩ = some (.string ⟨#[]⟩) ∧ w'.cell? ⟨q, 8, none⟩ = some (.slice none 0 0) ∧ w'.cell? ⟨q, 9, none⟩ = some (.slice none 0 0) ∧ w'.cell? ⟨q, 10, none⟩ = some (.slice none 0 0) ∧ w'.cell? ⟨q, 11, none⟩ = some (.bool false) ∧ w'.cell? ⟨q, 12, none⟩ = some (.slice none 0 0))
            (first | exact ⟨cell_later hC z0, cell_later hC z1, cell_later hC z2, cell_later hC z3, cell_later hC z4, cell_later hC z5, cell_later hC z6, cell_later hC z7, cell_later hC z8, cell_later hC z9, cell_later hC z10, cell_later hC z11, cell_later hC z12⟩)
            (first
            | (go_at_call 7; with_reducible refine Calls.mono (HS.out _) ?_; rintro e y1 ⟨b, rfl, hT, -, hb1⟩; replace hC := Below.on hC hb1; have HT : Hid _ := hid hT; clear hT)
            | (go_at_call 6; with_reducible refine Calls.mono (HCk.out _ _ _ HT.out (HQ.out _ hC) rfl) ?_; rintro e y2 ⟨rfl, hb2⟩; replace hC := Below.on hC hb2))
          all_goals
            go_wp2
            go_ret
            exact ⟨rfl, Below.on hw hC⟩
      | true =>
        have b1 := (Bk.new U1 (.cells #[.int .i64 a, .string ⟨#[]⟩, .string nm] 25)).later (bal (Below.refl _ _) (.cells #[.int .i64 6, .string ⟨#[116]⟩, .string ⟨#[]⟩, .slice none 0 0, .slice none 0 0, .slice none 0 0, .slice (some ⟨U1.heap.size, 0, none⟩) 1 1, .string ⟨#[]⟩, .slice none 0 0, .slice none 0 0, .slice none 0 0, .bool false, .slice none 0 0] 32))
        have b2 := Bk.new (U1.alloc (.cells #[.int .i64 a, .string ⟨#[]⟩, .string nm] 25)) (.cells #[.int .i64 6, .string ⟨#[116]⟩, .string ⟨#[]⟩, .slice none 0 0, .slice none 0 0, .slice none 0 0, .slice (some ⟨U1.heap.size, 0, none⟩) 1 1, .string ⟨#[]⟩, .slice none 0 0, .slice none 0 0, .slice none 0 0, .bool false, .slice none 0 0] 32)
        have hb2 := bal (bal (Below.refl U1.heap.size U1) (.cells #[.int .i64 a, .string ⟨#[]⟩, .string nm] 25)) (.cells #[.int .i64 6, .string ⟨#[116]⟩, .string ⟨#[]⟩, .slice none 0 0, .slice none 0 0, .slice none 0 0, .slice (some ⟨U1.heap.size, 0, none⟩) 1 1, .string ⟨#[]⟩, .slice none 0 0, .slice none 0 0, .slice none 0 0, .bool false, .slice none 0 0] 32)
        rw [World.size_alloc] at b2
        go_upto_region 8 with fail
        generalize (U1.alloc (.cells #[.int .i64 a, .string ⟨#[]⟩, .string nm] 25)).alloc (.cells #[.int .i64 6, .string ⟨#[116]⟩, .string ⟨#[]⟩, .slice none 0 0, .slice none 0 0, .slice none 0 0, .slice (some ⟨U1.heap.size, 0, none⟩) 1 1, .string ⟨#[]⟩, .slice none 0 0, .slice none 0 0, .slice none 0 0, .bool false, .slice none 0 0] 32) = Z at *
        replace hw := Below.on hw hb2
        have hqo : U1.heap.size < U1.heap.size + 1 := by omega
        have hlq := b2.lt
        generalize U1.heap.size + 1 = q at *
        generalize U1.heap.size = qi at *
        clear hb2
        have hO : OwnR 25 3 qi Z (.slice (some ⟨qi, 0, none⟩) 1 1) [[.int .i64 a, .string ⟨#[]⟩, .string nm]] := OwnR.bk b1 rfl (Nat.le_refl _)
        clear b1
        have hI := bal (Below.refl Z.heap.size Z) (.cells #[.int .i64 0, .string ⟨#[]⟩, .string ⟨#[107]⟩] 25)
        have ho2 := hO.later hI
        have b2x := b2.later hI
        have z6 := b2.cell 6
        simp only [List.getElem?_toArray, List.getElem?_cons_zero, List.getElem?_cons_succ] at z6
        have hwI := bal hw (.cells #[.int .i64 0, .string ⟨#[]⟩, .string ⟨#[107]⟩] 25)
        have hBI : qi ≤ (Z.alloc (.cells #[.int .i64 0, .string ⟨#[]⟩, .string ⟨#[107]⟩] 25)).heap.size := by rw [World.size_alloc]; omega
        go_wp2_with (first | (at_builtin; go_must (refine wpList_appR Tryz.underlying26 Tryz.infoTItem rfl (by decide) (by decide) rfl (.tmp 36) (.tmp 38) rfl _ [[.int .i64 a, .string ⟨#[]⟩, .string nm]] Z.heap.size [.int .i64 0, .string ⟨#[]⟩, .string ⟨#[107]⟩] rfl rfl ho2 rfl (by simp [Value.oneCell']) (new3 Z _ _ _ _) (by simp) hBI ?_)) | fail)
        intro v' w6 hO6 hg6 hown
        have hb6 : Below w.heap.size w w6 := below_grows hwI hwI.size hg6 fun k e => by simp [Value.ownBlock] at e; omega
        have hq6 : w6.heap[q]? = (Z.alloc (.cells #[.int .i64 0, .string ⟨#[]⟩, .string ⟨#[107]⟩] 25)).heap[q]? := hg6.block q (by rw [World.size_alloc]; omega) (by simp [Value.ownBlock]; omega)
        have b2y : Bk w6 q _ := ⟨hq6.trans b2x.row⟩
        obtain ⟨ia, im, id, rfl⟩ := hO6.sl
        have hnq : (Value.slice ia im id).ownBlock ≠ some q := by
          rcases hown with h | h
          · rw [h]; simp [Value.ownBlock]; omega
          · rw [h]; simp; omega
        clear z6 ho2 b2x hI hwI hBI hg6 hown hq6 hO b2
        have f6 := b2y.free 6
        have z6 := b2y.cell 6
        simp only [List.getElem?_toArray, List.getElem?_cons_zero, List.getElem?_cons_succ] at z6
        go_upto_region 10 with fail
        have b2 := b2y.putA 6 (.slice ia im id)
        have hO := hO6.putA (o := 6) (x := .slice ia im id) hnq
        replace hw := hb6.setCell (show w.heap.size ≤ (⟨q, 6, none⟩ : Addr).block by show w.heap.size ≤ q; omega) (.slice ia im id)
        generalize w6.setCell ⟨q, 6, none⟩ (.slice ia im id) = Z1 at *
        clear f6 z6 b2y hO6 hb6
        go_wp2_with fail
        refine Calls.mono (HCo.out _ _ _) ?_
        rintro e V3 ⟨rfl, hv3⟩
        replace b2 := b2.later hv3
        replace hO := hO.later hv3
        replace hw := Below.on hw hv3
        have hq3 := b2.lt
        have hI := bal (Below.refl V3.heap.size V3) (.cells #[.int .i64 2, .int .i64 0, .int .i64 0, .string ⟨#[]⟩, .string ⟨#[]⟩, .string ⟨#[107]⟩, .slice none 0 0] 36)
        have b2x := b2.later hI
        have f10 := b2x.free 10
        have z10 : (V3.alloc (.cells #[.int .i64 2, .int .i64 0, .int .i64 0, .string ⟨#[]⟩, .string ⟨#[]⟩, .string ⟨#[107]⟩, .slice none 0 0] 36)).cell? ⟨q, 10, none⟩ = some (.slice none 0 0) := b2x.cell 10
        go_upto_region 12 with fail
        clear b2x f10 z10
        replace hw := hw.setCell (show w.heap.size ≤ (⟨q, 10, none⟩ : Addr).block by show w.heap.size ≤ q; omega) (.slice (some ⟨V3.heap.size, 0, none⟩) 1 1)
        replace b2 := b2.putA 10 (.slice (some ⟨V3.heap.size, 0, none⟩) 1 1)
        replace hO := hO.putA (o := 10) (x := (.slice (some ⟨V3.heap.size, 0, none⟩) 1 1)) hnq
        have hs : (V3.setCell ⟨q, 10, none⟩ (.slice (some ⟨V3.heap.size, 0, none⟩) 1 1)).heap.size = V3.heap.size := by simp [World.setCell]
        have b3 := Bk.new (V3.setCell ⟨q, 10, none⟩ (.slice (some ⟨V3.heap.size, 0, none⟩) 1 1)) (.cells #[.int .i64 2, .int .i64 0, .int .i64 0, .string ⟨#[]⟩, .string ⟨#[]⟩, .string ⟨#[107]⟩, .slice none 0 0] 36)
        replace hI := bal (Below.refl _ (V3.setCell ⟨q, 10, none⟩ (.slice (some ⟨V3.heap.size, 0, none⟩) 1 1))) (.cells #[.int .i64 2, .int .i64 0, .int .i64 0, .string ⟨#[]⟩, .string ⟨#[]⟩, .string ⟨#[107]⟩, .slice none 0 0] 36)
        rw [hs] at b3
        replace b2 := b2.later hI
        replace hO := hO.later hI
        replace hw := bal hw (.cells #[.int .i64 2, .int .i64 0, .int .i64 0, .string ⟨#[]⟩, .string ⟨#[]⟩, .string ⟨#[107]⟩, .slice none 0 0] 36)
        generalize (V3.setCell ⟨q, 10, none⟩ (.slice (some ⟨V3.heap.size, 0, none⟩) 1 1)).alloc (.cells #[.int .i64 2, .int .i64 0, .int .i64 0, .string ⟨#[]⟩, .string ⟨#[]⟩, .string ⟨#[107]⟩, .slice none 0 0] 36) = Y at *
        generalize V3.heap.size = qc at *
        clear hs hI hv3 hq3
        have HQ : Hid (∀ w1, Below Y.heap.size Y w1 → IsQ w1 (aggM nm a true true) ⟨6, ⟨#[116]⟩, ⟨#[]⟩, (none, 0, 0), (none, 0, 0), (none, 0, 0), (ia, im, id), ⟨#[]⟩, (none, 0, 0), (none, 0, 0), (some ⟨qc, 0, none⟩, 1, 1), false, (none, 0, 0)⟩) := hid fun w1 hb =>
          ⟨rfl, rfl, rfl, rfl, RowIs.nil _ _ _, by
            have h := (OwnR.rowE (e := eItem) (l := [(a, ⟨#[]⟩, nm), (0, ⟨#[]⟩, ⟨#[107]⟩)]) (hO.later hb) rfl (fun _ _ _ => trivial) fun i h1 h2 => by have hi : i < 2 := h1; (match i, hi with | 0, _ => rfl | 1, _ => rfl))
            rw [show (aggM nm a true true).items = [(a, ⟨#[]⟩, nm), (0, ⟨#[]⟩, ⟨#[107]⟩)] from by unfold aggM aggN; rw [if_neg h1]; rfl]; exact h, RowIs.nil _ _ _, RowIs.nil _ _ _, row1_g (x := (colG3 ⟨#[]⟩ ⟨#[107]⟩, .nil)) (show Ce w1 qc 0 2 (0, 0, ⟨#[]⟩, ⟨#[]⟩, ⟨#[107]⟩) (.slice none 0 0) from ⟨(b3.later hb).cell 0, (b3.later hb).cell 1, (b3.later hb).cell 2, (b3.later hb).cell 3, (b3.later hb).cell 4, (b3.later hb).cell 5, (b3.later hb).cell 6⟩) (SlF.nil _ _)⟩
        have z0 : Y.cell? ⟨q, 0, none⟩ = some (.int .i64 6) := b2.cell 0
        have z1 : Y.cell? ⟨q, 1, none⟩ = some (.string ⟨#[116]⟩) := b2.cell 1
        have z2 : Y.cell? ⟨q, 2, none⟩ = some (.string ⟨#[]⟩) := b2.cell 2
        have z3 : Y.cell? ⟨q, 3, none⟩ = some (.slice none 0 0) := b2.cell 3
        have z4 : Y.cell? ⟨q, 4, none⟩ = some (.slice none 0 0) := b2.cell 4
        have z5 : Y.cell? ⟨q, 5, none⟩ = some (.slice none 0 0) := b2.cell 5
        have z6 : Y.cell? ⟨q, 6, none⟩ = some (.slice ia im id) := b2.cell 6
        have z7 : Y.cell? ⟨q, 7, none⟩ = some (.string ⟨#[]⟩) := b2.cell 7
        have z8 : Y.cell? ⟨q, 8, none⟩ = some (.slice none 0 0) := b2.cell 8
        have z9 : Y.cell? ⟨q, 9, none⟩ = some (.slice none 0 0) := b2.cell 9
        have z10 : Y.cell? ⟨q, 10, none⟩ = some (.slice (some ⟨qc, 0, none⟩) 1 1) := b2.cell 10
        have z11 : Y.cell? ⟨q, 11, none⟩ = some (.bool false) := b2.cell 11
        have z12 : Y.cell? ⟨q, 12, none⟩ = some (.slice none 0 0) := b2.cell 12
        clear b2 hO hnq b3
        have hcase : (a = 2 ∧ bv = true) ∨ (a = 2 ∧ bv = false) ∨ a = 0 ∨ (¬ a = 2 ∧ ¬ a = 0) := by
          by_cases g2 : a = 2
          · cases bv
            · exact .inr (.inl ⟨g2, rfl⟩)
            · exact .inl ⟨g2, rfl⟩
          · by_cases g0 : a = 0
            · exact .inr (.inr (.inl g0))
            · exact .inr (.inr (.inr ⟨g2, g0⟩))
        have hXX := HX.out
        rcases hcase with ⟨rfl, rfl⟩ | ⟨rfl, rfl⟩ | rfl | ⟨g2, g0⟩
        · simp [wantA] at hXX
          subst hXX
          clear HX
          have hC : Below Y.heap.size Y Y.drew := (Below.refl _ Y).drew
          go_wp2
          go_region_held (fun w' => w'.cell? ⟨q, 0, none⟩ = some (.int .i64 6) ∧ w'.cell? ⟨q, 1, none⟩ = some (.string ⟨#[116]⟩) ∧ w'.cell? ⟨q, 2, none⟩ = some (.string ⟨#[]⟩) ∧ w'.cell? ⟨q, 3, none⟩ = some (.slice none 0 0) ∧ w'.cell? ⟨q, 4, none⟩ = some (.slice none 0 0) ∧ w'.cell? ⟨q, 5, none⟩ = some (.slice none 0 0) ∧ w'.cell? ⟨q, 6, none⟩ = some (.slice ia im id) ∧ w'.cell? ⟨q, 7, none⟩ = some (.string ⟨#[]⟩) ∧ w'.cell? ⟨q, 8, none⟩ = some (.slice none 0 0) ∧ w'.cell? ⟨q, 9, none⟩ = some (.slice none 0 0) ∧ w'.cell? ⟨q, 10, none⟩ = some (.slice (some ⟨qc, 0, none⟩) 1 1) ∧ w'.cell? ⟨q, 11, none⟩ = some (.bool false) ∧ w'.cell? ⟨q, 12, none⟩ = some (.slice none 0 0))
            (first | exact ⟨cell_later hC z0, cell_later hC z1, cell_later hC z2, cell_later hC z3, cell_later hC z4, cell_later hC z5, cell_later hC z6, cell_later hC z7, cell_later hC z8, cell_later hC z9, cell_later hC z10, cell_later hC z11, cell_later hC z12⟩)
            (first
            | (go_at_call 7; with_reducible refine Calls.mono (HS.out _) ?_; rintro e y1 ⟨b, rfl, hT, -, hb1⟩; replace hC := Below.on hC hb1; have HT : Hid _ := hid hT; clear hT)
            | (go_at_call 6; with_reducible refine Calls.mono (HCk.out _ _ _ HT.out (HQ.out _ hC) rfl) ?_; rintro e y2 ⟨rfl, hb2⟩; replace hC := Below.on hC hb2))
          all_goals
            go_wp2
            go_ret
            exact ⟨rfl, Below.on hw hC⟩
        · simp [wantA] at hXX
          subst hXX
          clear HX
          have hC : Below Y.heap.size Y Y.drew := (Below.refl _ Y).drew
          go_wp2
          go_region_held (fun w' => w'.cell? ⟨q, 0, none⟩ = some (.int .i64 6) ∧ w'.cell? ⟨q, 1, none⟩ = some (.string ⟨#[116]⟩) ∧ w'.cell? ⟨q, 2, none⟩ = some (.string ⟨#[]⟩) ∧ w'.cell? ⟨q, 3, none⟩ = some (.slice none 0 0) ∧ w'.cell? ⟨q, 4, none⟩ = some (.slice none 0 0) ∧ w'.cell? ⟨q, 5, none⟩ = some (.slice none 0 0) ∧ w'.cell? ⟨q, 6, none⟩ = some (.slice ia im id) ∧ w'.cell? ⟨q, 7, none⟩ = some (.string ⟨#[]⟩) ∧ w'.cell? ⟨q, 8, none⟩ = some (.slice none 0 0) ∧ w'.cell? ⟨q, 9, none⟩ = some (.slice none 0 0) ∧ w'.cell? ⟨q, 10, none⟩ = some (.slice (some ⟨qc, 0, none⟩) 1 1) ∧ w'.cell? ⟨q, 11, none⟩ = some (.bool false) ∧ w'.cell? ⟨q, 12, none⟩ = some (.slice none 0 0))
            (first | exact ⟨cell_later hC z0, cell_later hC z1, cell_later hC z2, cell_later hC z3, cell_later hC z4, cell_later hC z5, cell_later hC z6, cell_later hC z7, cell_later hC z8, cell_later hC z9, cell_later hC z10, cell_later hC z11, cell_later hC z12⟩)
            (first
            | (go_at_call 7; with_reducible refine Calls.mono (HS.out _) ?_; rintro e y1 ⟨b, rfl, hT, -, hb1⟩; replace hC := Below.on hC hb1; have HT : Hid _ := hid hT; clear hT)
            | (go_at_call 6; with_reducible refine Calls.mono (HCk.out _ _ _ HT.out (HQ.out _ hC) rfl) ?_; rintro e y2 ⟨rfl, hb2⟩; replace hC := Below.on hC hb2))
          all_goals
            go_wp2
            go_ret
            exact ⟨rfl, Below.on hw hC⟩
        · simp [wantA] at hXX
          subst hXX
          clear HX
          have hC : Below Y.heap.size Y Y.drew := (Below.refl _ Y).drew
          go_wp2
          go_region_held (fun w' => w'.cell? ⟨q, 0, none⟩ = some (.int .i64 6) ∧ w'.cell? ⟨q, 1, none⟩ = some (.string ⟨#[116]⟩) ∧ w'.cell? ⟨q, 2, none⟩ = some (.string ⟨#[]⟩) ∧ w'.cell? ⟨q, 3, none⟩ = some (.slice none 0 0) ∧ w'.cell? ⟨q, 4, none⟩ = some (.slice none 0 0) ∧ w'.cell? ⟨q, 5, none⟩ = some (.slice none 0 0) ∧ w'.cell? ⟨q, 6, none⟩ = some (.slice ia im id) ∧ w'.cell? ⟨q, 7, none⟩ = some (.string ⟨#[]⟩) ∧ w'.cell? ⟨q, 8, none⟩ = some (.slice none 0 0) ∧ w'.cell? ⟨q, 9, none⟩ = some (.slice none 0 0) ∧ w'.cell? ⟨q, 10, none⟩ = some (.slice (some ⟨qc, 0, none⟩) 1 1) ∧ w'.cell? ⟨q, 11, none⟩ = some (.bool false) ∧ w'.cell? ⟨q, 12, none⟩ = some (.slice none 0 0))
            (first | exact ⟨cell_later hC z0, cell_later hC z1, cell_later hC z2, cell_later hC z3, cell_later hC z4, cell_later hC z5, cell_later hC z6, cell_later hC z7, cell_later hC z8, cell_later hC z9, cell_later hC z10, cell_later hC z11, cell_later hC z12⟩)
            (first
            | (go_at_call 7; with_reducible refine Calls.mono (HS.out _) ?_; rintro e y1 ⟨b, rfl, hT, -, hb1⟩; replace hC := Below.on hC hb1; have HT : Hid _ := hid hT; clear hT)
            | (go_at_call 6; with_reducible refine Calls.mono (HCk.out _ _ _ HT.out (HQ.out _ hC) rfl) ?_; rintro e y2 ⟨rfl, hb2⟩; replace hC := Below.on hC hb2))
          all_goals
            go_wp2
            go_ret
            exact ⟨rfl, Below.on hw hC⟩
        · have e2 : decide (a = 2) = false := by simpa using g2
          have e0 : decide (a = 0) = false := by simpa using g0
          rw [e2, e0] at hXX
          simp [wantA] at hXX
          subst hXX
          clear HX
          have hC : Below Y.heap.size Y Y.drew := (Below.refl _ Y).drew
          go_wp2
          go_region_held (fun w' => w'.cell? ⟨q, 0, none⟩ = some (.int .i64 6) ∧ w'.cell? ⟨q, 1, none⟩ = some (.string ⟨#[116]⟩) ∧ w'.cell? ⟨q, 2, none⟩ = some (.string ⟨#[]⟩) ∧ w'.cell? ⟨q, 3, none⟩ = some (.slice none 0 0) ∧ w'.cell? ⟨q, 4, none⟩ = some (.slice none 0 0) ∧ w'.cell? ⟨q, 5, none⟩ = some (.slice none 0 0) ∧ w'.cell? ⟨q, 6, none⟩ = some (.slice ia im id) ∧ w'.cell? ⟨q, 7, none⟩ = some (.string ⟨#[]⟩) ∧ w'.cell? ⟨q, 8, none⟩ = some (.slice none 0 0) ∧ w'.cell? ⟨q, 9, none⟩ = some (.slice none 0 0) ∧ w'.cell? ⟨q, 10, none⟩ = some (.slice (some ⟨qc, 0, none⟩) 1 1) ∧ w'.cell? ⟨q, 11, none⟩ = some (.bool false) ∧ w'.cell? ⟨q, 12, none⟩ = some (.slice none 0 0))
            (first | exact ⟨cell_later hC z0, cell_later hC z1, cell_later hC z2, cell_later hC z3, cell_later hC z4, cell_later hC z5, cell_later hC z6, cell_later hC z7, cell_later hC z8, cell_later hC z9, cell_later hC z10, cell_later hC z11, cell_later hC z12⟩)
            (first
            | (go_at_call 7; with_reducible refine Calls.mono (HS.out _) ?_; rintro e y1 ⟨b, rfl, hT, -, hb1⟩; replace hC := Below.on hC hb1; have HT : Hid _ := hid hT; clear hT)
            | (go_at_call 6; with_reducible refine Calls.mono (HCk.out _ _ _ HT.out (HQ.out _ hC) rfl) ?_; rintro e y2 ⟨rfl, hb2⟩; replace hC := Below.on hC hb2))
          all_goals
            go_wp2
            go_ret
            exact ⟨rfl, Below.on hw hC⟩

end Go.Proofs.YtljmlacnfnmjbabGreat
