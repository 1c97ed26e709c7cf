import Derived.Test.YtnlaaejdianfjaaGreatQfah
namespace Go.Proofs.YtnlaaejdianfjaaGreat
open Go.RowKit
set_option linter.unusedVariables false
set_option linter.unusedSimpArgs false

/-- Picks lie in block g; these numbers are left. -/
structure PkX (w : World) (g : Nat) (zs : List Nat) : Prop where
  on : ∃ a len cap n, Pq2 w g a len cap n ∧ n + zs.length = len ∧ len ≤ cap ∧ cap ≤ 9223372036854775807 ∧ (0 < zs.length → ∃ b o, a = some ⟨b, o, none⟩ ∧ b < g ∧ b < w.heap.size ∧ ∀ i (h : i < zs.length), zs[i] ≤ 255 ∧ w.cell? ⟨b, o + (n + i), none⟩ = some (.int .u8 (zs[i] : Int)))
theorem PkX.lt {w : World} {g : Nat} {zs : List Nat} (h : PkX w g zs) : g < w.heap.size := by
  obtain ⟨a, len, cap, n, hq, _⟩ := h.on
  exact hq.lt
theorem PkX.keep {w w' : World} {g : Nat} {zs : List Nat} (h : PkX w g zs) (hs : w.heap.size ≤ w'.heap.size) (hk : ∀ k, k ≤ g → w'.heap[k]? = w.heap[k]?) : PkX w' g zs := by
  obtain ⟨a, len, cap, n, hq, h1, h2, h3, h4⟩ := h.on
  refine ⟨a, len, cap, n, ⟨(hk g (Nat.le_refl _)).trans hq.row⟩, h1, h2, h3, fun hp => ?_⟩
  obtain ⟨b, o, ha, hb, hb2, hz⟩ := h4 hp
  exact ⟨b, o, ha, hb, by omega, fun i hi => ⟨(hz i hi).1, (World.cell?_of_block (a := ⟨b, _, none⟩) (hk b (by omega))).trans (hz i hi).2⟩⟩
theorem PkX.later {w w' : World} {g : Nat} {zs : List Nat} (h : PkX w g zs) (hb : Below w.heap.size w w') : PkX w' g zs := h.keep hb.size fun k hk => hb.block k (Nat.lt_of_le_of_lt hk h.lt)
theorem PkX.alloc {w : World} {g : Nat} {zs : List Nat} (h : PkX w g zs) (o : Obj) : PkX (w.alloc o) g zs := h.later ((Below.refl _ _).alloc (Nat.le_refl _) o)
theorem PkX.drewN {w : World} {g : Nat} {zs : List Nat} (h : PkX w g zs) (n : Nat) : PkX (w.drewN n) g zs := h.keep (Nat.le_refl _) fun _ _ => rfl
theorem PkX.other {w : World} {g : Nat} {zs : List Nat} (h : PkX w g zs) {b : Nat} (hb : g < b) (o : Nat) (v : Value) : PkX (w.setCell ⟨b, o, none⟩ v) g zs :=
  h.keep (by simp [World.setCell]) fun k hk => Below.heap_setCell _ _ _ _ (by show k ≠ b; omega)
theorem PkX.new3 {w : World} {g : Nat} {zs : List Nat} (h : PkX w g zs) {b : Nat} (hb : g < b) (x y z : Value) : PkX (((w.setCell ⟨b, 0, none⟩ x).setCell ⟨b, 1, none⟩ y).setCell ⟨b, 2, none⟩ z) g zs := ((h.other hb _ _).other hb _ _).other hb _ _
theorem PkX.grown {g : Nat} {zs : List Nat} {w3 w4 : World} {row : Option Nat} (h : PkX w3 g zs) (hg : w3.grownBy w4 row) (hrow : ∀ k, row = some k → g < k) : PkX w4 g zs :=
  h.keep hg.size fun k hk => hg.block k (Nat.lt_of_le_of_lt hk h.lt) fun e => by have := hrow k e.symm; omega
/-- What Num picks, below m. -/
def hdM (zs : List Nat) (m : Nat) : Nat := zs.headD 0 % m
theorem hdM_lt (zs : List Nat) {m : Nat} (h : 0 < m) : hdM zs m < m := Nat.mod_lt _ h
set_option maxRecDepth 100000 in
set_option maxHeartbeats 1000000 in
theorem numX_any {g : Nat} {zs : List Nat} {w : World} (h : PkX w g zs) (m : Nat) (hm : 0 < m) (hm2 : m ≤ 100) :
    Calls Tryz.prog 46 #[.pointer (some ⟨g, 0, none⟩), .int .i64 (m : Int)] w fun e w' => e = .returned (.int .i64 ((hdM zs m : Nat) : Int)) ∧ PkX w' g zs.tail ∧ But g w w' := by
  obtain ⟨a, len, cap, n, hq, h1, h2, h3, h4⟩ := h.on
  obtain ⟨c0, c1⟩ := hq.cells
  have f1 := hq.free
  have hgl := hq.lt
  cases zs with
  | nil =>
    obtain rfl : n = len := by simpa using h1
    have g1 : decide ((n : Int) ≤ (n : Int)) = true := by simp
    have HP : Hid _ := hid h
    clear h h4 h1 hq
    go_enter Tryz.func46, Tryz.ntmps46
    go_wp2
    go_quiet (fail)
    have HQ : Hid _ := hid (HP.out.drewN nq)
    have HB : Hid _ := hid ((But.refl g w).rdrew nq)
    clear HP
    generalize w.drewN nq = W at *
    go_wp2
    go_ret
    exact ⟨by show _ = Ending.returned (.int .i64 (((0 % m : Nat)) : Int)); rw [Nat.zero_mod]; rfl, HQ.out, HB.out⟩
  | cons z0n zs =>
    rw [List.length_cons] at h1
    have hlt : n < len := by omega
    have g1 : decide ((len : Int) ≤ (n : Int)) = false := by simp; omega
    obtain ⟨b, o, rfl, hbg, hbl, hz⟩ := h4 (by simp)
    have hz0 := hz 0 (by simp)
    simp only [List.getElem_cons_zero, Nat.add_zero] at hz0
    obtain ⟨z1n, hc⟩ := hz0
    obtain ⟨z, hzz⟩ : ∃ z : Int, (z0n : Int) = z := ⟨_, rfl⟩
    rw [hzz] at hc
    have z0 : 0 ≤ z := by omega
    have z1 : z ≤ 255 := by omega
    have HP : Hid (PkX (w.setCell ⟨g, 1, none⟩ (.int .i64 ((n + 1 : Nat) : Int))) g zs) := hid ⟨_, len, cap, n + 1, hq.set _, by omega, h2, h3, fun _ => ⟨b, o, rfl, hbg, by simpa [World.setCell] using hbl, fun i hi => by
      have hh := hz (i + 1) (by simpa using hi)
      simp only [List.getElem_cons_succ] at hh
      refine ⟨hh.1, ?_⟩
      rw [show o + (n + 1 + i) = o + (n + (i + 1)) from by omega]
      exact (World.cell?_of_block (a := ⟨b, _, none⟩) (Below.heap_setCell _ _ _ _ (by show b ≠ g; omega))).trans hh.2⟩⟩
    have hP2 := hq.set (n + 1)
    obtain ⟨d0, d1⟩ := hP2.cells
    have hc2 : (w.setCell ⟨g, 1, none⟩ (.int .i64 ((n + 1 : Nat) : Int))).cell? ⟨b, o + n, none⟩ = some (.int .u8 z) := (World.cell?_of_block (a := ⟨b, _, none⟩) (Below.heap_setCell _ _ _ _ (by show b ≠ g; omega))).trans hc
    have hbe : ((n + 1 : Nat) : Int) = (n : Int) + 1 := by omega
    have hB : But g w (w.setCell ⟨g, 1, none⟩ (.int .i64 ((n + 1 : Nat) : Int))) := But.set _ _ _ _
    rw [hbe] at d0 d1 hc2 HP hB
    have HZ : Hid _ := hid hzz
    clear h h4 hq hP2 hz hbe hzz
    go_enter Tryz.func46, Tryz.ntmps46
    go_wp2
    go_quiet (fail)
    obtain ⟨V, hV⟩ : ∃ V, w.drewN nq = V := ⟨_, rfl⟩
    have e0 : V.cell? ⟨g, 0, none⟩ = some (.slice (some ⟨b, o, none⟩) len cap) := by rw [← hV]; exact c0
    have e1 : V.cell? ⟨g, 1, none⟩ = some (.int .i64 n) := by rw [← hV]; exact c1
    have e2 : V.frozen? ⟨g, 1, none⟩ = false := by rw [← hV]; exact f1
    have e3 : V.heap.size = w.heap.size := by rw [← hV]; rfl
    have e4 : (V.setCell ⟨g, 1, none⟩ (.int .i64 ((n : Int) + 1))).cell? ⟨b, o + n, none⟩ = some (.int .u8 z) := by rw [← hV]; exact hc2
    have e5 : (V.setCell ⟨g, 1, none⟩ (.int .i64 ((n : Int) + 1))).cell? ⟨g, 0, none⟩ = some (.slice (some ⟨b, o, none⟩) len cap) := by rw [← hV]; exact d0
    have e6 : (V.setCell ⟨g, 1, none⟩ (.int .i64 ((n : Int) + 1))).cell? ⟨g, 1, none⟩ = some (.int .i64 ((n : Int) + 1)) := by rw [← hV]; exact d1
    have HQ : Hid (PkX (V.setCell ⟨g, 1, none⟩ (.int .i64 ((n : Int) + 1))) g zs) := hid (by rw [← hV]; exact HP.out.keep (Nat.le_refl _) fun _ _ => rfl)
    have HC : Hid (But g w (V.setCell ⟨g, 1, none⟩ (.int .i64 ((n : Int) + 1)))) := hid (by rw [← hV]; exact ⟨hB.os, hB.tape, hB.output, hB.size, hB.block⟩)
    clear c0 c1 f1 d0 d1 hc hc2 HP hB
    rw [hV]
    clear hV
    go_wp2
    obtain ⟨U, hU⟩ : ∃ U, V.setCell ⟨g, 1, none⟩ (.int .i64 ((n : Int) + 1)) = U := ⟨_, rfl⟩
    rw [hU] at e4 e5 e6 HQ HC ⊢
    clear hU e0 e1 e2 e3
    go_quiet (fail)
    have HQ2 : Hid _ := hid (HQ.out.drewN nq)
    have HC2 : Hid _ := hid (HC.out.rdrew nq)
    generalize U.drewN nq = T at *
    go_wp2
    go_ret
    have hmi : (0 : Int) < (m : Int) := by omega
    have hz0 : 0 ≤ z % (m : Int) := Int.emod_nonneg _ (by omega)
    have hz1 : z % (m : Int) < (m : Int) := Int.emod_lt_of_pos _ hmi
    refine ⟨?_, HQ2.out, HC2.out⟩
    show Ending.returned (.int .i64 (z % (m : Int))) = Ending.returned (.int .i64 (((z0n % m : Nat)) : Int))
    rw [← HZ.out, Int.natCast_emod]

set_option maxRecDepth 100000 in
set_option maxHeartbeats 1000000 in
theorem overX_any {g : Nat} {zs : List Nat} {w : World} (h : PkX w g zs) :
    Calls Tryz.prog 30 #[.pointer (some ⟨g, 0, none⟩)] w fun e w' => e = .returned (.bool (decide (zs = []))) ∧ PkX w' g zs ∧ But g w w' := by
  obtain ⟨a, len, cap, n, hq, h1, h2, h3, h4⟩ := h.on
  obtain ⟨c0, c1⟩ := hq.cells
  have hgl := hq.lt
  have HP : Hid _ := hid h
  have HD : Hid (decide (zs = []) = decide (len ≤ n)) := hid (by cases zs <;> simp at h1 ⊢ <;> omega)
  clear h h4 hq
  generalize decide (zs = []) = D at *
  go_enter Tryz.func30, Tryz.ntmps30
  go_wp2
  go_quiet (fail)
  have HQ : Hid _ := hid (HP.out.drewN nq)
  have HB : Hid _ := hid ((But.refl g w).rdrew nq)
  clear HP
  generalize w.drewN nq = W at *
  go_wp2
  go_ret
  exact ⟨by rw [HD.out]; rfl, HQ.out, HB.out⟩
/-- The value of a kind that Value picks. -/
def vaX (kind : Int) (zs : List Nat) : Vt := if kind = 2 then (2, 0, ([⟨#[97]⟩, ⟨#[98]⟩, ⟨#[]⟩, ⟨#[105, 116, 39, 115]⟩, ⟨#[122, 122]⟩][hdM zs 5]?).getD ⟨#[]⟩) else (1, (if hdM zs 12 = 11 then 9223372036854775807 else (hdM zs 12 : Int)), ⟨#[]⟩)
set_option maxRecDepth 100000 in
set_option maxHeartbeats 1000000 in
theorem valueX_any {g : Nat} {zs : List Nat} {w : World} (h : PkX w g zs) (kind : Int) (hk : kind = 1 ∨ kind = 2) :
    Calls Tryz.prog 50 #[.pointer (some ⟨g, 0, none⟩), .int .i64 kind] w fun e w' => e = .returned (vV (vaX kind zs)) ∧ PkX w' g zs.tail ∧ But g w w' := by
  have hgl := h.lt
  have hv : Bv (w.alloc (.cells #[.int .i64 0, .int .i64 0, .string ⟨#[]⟩] 44)) w.heap.size 0 0 ⟨#[]⟩ := ⟨heap_alloc_new w _⟩
  rcases hk with rfl | rfl
  · have HN : Hid _ := hid (numX_any (h.alloc (.cells #[.int .i64 0, .int .i64 0, .string ⟨#[]⟩] 44)) 12 (by decide) (by decide))
    clear h
    go_enter Tryz.func50, Tryz.ntmps50
    go_wp2_with fail
    refine Calls.mono HN.out ?_
    rintro e w1 ⟨rfl, hp, hb⟩
    have hk := hdM_lt zs (m := 12) (by decide)
    obtain ⟨k, hkz⟩ : ∃ k, hdM zs 12 = k := ⟨_, rfl⟩
    rw [hkz] at hk
    have HKZ : Hid _ := hid hkz
    rw [hkz]
    clear hkz
    have hB : But g w w1 := ((But.refl g w).alloc _).trans hb
    have hv1 := hv.but hb (by omega)
    obtain ⟨c0, c1, c2⟩ := hv1.cells
    obtain ⟨f0, f1, f2⟩ := hv1.free
    have hbl := hv1.lt
    by_cases h11 : k = 11
    · subst h11
      have HE : Hid _ := hid (hp.new3 (b := w.heap.size) hgl (.int .i64 1) (.int .i64 9223372036854775807) (.string ⟨#[]⟩))
      have HB : Hid _ := hid (hB.new3 (b := w.heap.size) (Nat.le_refl _) (.int .i64 1) (.int .i64 9223372036854775807) (.string ⟨#[]⟩))
      clear hv hv1 hp hB hb HN
      go_wp2
      exact bodyPost_ret (v := .agg #[.int .i64 1, .int .i64 9223372036854775807, .string ⟨#[]⟩]) (by simp [results, Tryz.results50, go_sem, c0, c1, c2]) rfl ⟨by unfold vaX; rw [if_neg (by decide), HKZ.out]; rfl, HE.out, HB.out⟩
    · have g1 : ((k : Int) == 11) = false := by simp; omega
      have HE : Hid _ := hid (hp.new3 (b := w.heap.size) hgl (.int .i64 1) (.int .i64 k) (.string ⟨#[]⟩))
      have HB : Hid _ := hid (hB.new3 (b := w.heap.size) (Nat.le_refl _) (.int .i64 1) (.int .i64 k) (.string ⟨#[]⟩))
      clear hv hv1 hp hB hb HN
      go_wp2
      exact bodyPost_ret (v := .agg #[.int .i64 1, .int .i64 k, .string ⟨#[]⟩]) (by simp [results, Tryz.results50, go_sem, c0, c1, c2]) rfl ⟨by unfold vaX; rw [if_neg (by decide), HKZ.out, if_neg h11], HE.out, HB.out⟩
  · have HN : Hid _ := hid (numX_any ((h.alloc (.cells #[.int .i64 0, .int .i64 0, .string ⟨#[]⟩] 44)).alloc (.cells #[.string ⟨#[97]⟩, .string ⟨#[98]⟩, .string ⟨#[]⟩, .string ⟨#[105, 116, 39, 115]⟩, .string ⟨#[122, 122]⟩] 9)) 5 (by decide) (by decide))
    clear h
    go_enter Tryz.func50, Tryz.ntmps50
    go_wp2_with fail
    refine Calls.mono HN.out ?_
    rintro e w1 ⟨rfl, hp, hb⟩
    have hk := hdM_lt zs (m := 5) (by decide)
    obtain ⟨k, hkz⟩ : ∃ k, hdM zs 5 = k := ⟨_, rfl⟩
    rw [hkz] at hk
    have HKZ : Hid _ := hid hkz
    rw [hkz]
    clear hkz
    have hB : But g w w1 := (((But.refl g w).alloc _).alloc _).trans hb
    have hc := strs_new _ hb (by simp; omega)
    have c4 := hc 4 (by decide)
    have c3 := hc 3 (by decide)
    have d0 := hc 0 (by decide)
    have d1 := hc 1 (by decide)
    have d2 := hc 2 (by decide)
    simp only [List.getElem_toArray, List.getElem_cons_zero, List.getElem_cons_succ, World.size_alloc] at d0 d1 d2 c3 c4
    have hv1 := (Bv.mk ((Below.heap_alloc _ _ _ hv.lt).trans hv.row) : Bv ((w.alloc (.cells #[.int .i64 0, .int .i64 0, .string ⟨#[]⟩] 44)).alloc (.cells #[.string ⟨#[97]⟩, .string ⟨#[98]⟩, .string ⟨#[]⟩, .string ⟨#[105, 116, 39, 115]⟩, .string ⟨#[122, 122]⟩] 9)) w.heap.size 0 0 ⟨#[]⟩).but hb (by omega)
    obtain ⟨c0, c1, c2⟩ := hv1.cells
    obtain ⟨f0, f1, f2⟩ := hv1.free
    have hbl : w.heap.size + 1 < w1.heap.size := by have := hb.size; simp at this; omega
    have HE : Hid (∀ s, _) := hid fun s => hp.new3 (b := w.heap.size) hgl (.int .i64 2) (.int .i64 0) (.string s)
    have HB : Hid (∀ s, _) := hid fun s => hB.new3 (b := w.heap.size) (Nat.le_refl _) (.int .i64 2) (.int .i64 0) (.string s)
    clear hv hv1 hp hB hb HN hc
    rcases (show k = 0 ∨ k = 1 ∨ k = 2 ∨ k = 3 ∨ k = 4 by omega) with rfl | rfl | rfl | rfl | rfl
    · go_wp2
      exact bodyPost_ret (v := .agg #[.int .i64 2, .int .i64 0, .string ⟨#[97]⟩]) (by simp [results, Tryz.results50, go_sem, c0, c1, c2]) rfl ⟨by unfold vaX; rw [if_pos rfl, HKZ.out]; rfl, HE.out _, HB.out _⟩
    · go_wp2
      exact bodyPost_ret (v := .agg #[.int .i64 2, .int .i64 0, .string ⟨#[98]⟩]) (by simp [results, Tryz.results50, go_sem, c0, c1, c2]) rfl ⟨by unfold vaX; rw [if_pos rfl, HKZ.out]; rfl, HE.out _, HB.out _⟩
    · go_wp2
      exact bodyPost_ret (v := .agg #[.int .i64 2, .int .i64 0, .string ⟨#[]⟩]) (by simp [results, Tryz.results50, go_sem, c0, c1, c2]) rfl ⟨by unfold vaX; rw [if_pos rfl, HKZ.out]; rfl, HE.out _, HB.out _⟩
    · go_wp2
      exact bodyPost_ret (v := .agg #[.int .i64 2, .int .i64 0, .string ⟨#[105, 116, 39, 115]⟩]) (by simp [results, Tryz.results50, go_sem, c0, c1, c2]) rfl ⟨by unfold vaX; rw [if_pos rfl, HKZ.out]; rfl, HE.out _, HB.out _⟩
    · go_wp2
      exact bodyPost_ret (v := .agg #[.int .i64 2, .int .i64 0, .string ⟨#[122, 122]⟩]) (by simp [results, Tryz.results50, go_sem, c0, c1, c2]) rfl ⟨by unfold vaX; rw [if_pos rfl, HKZ.out]; rfl, HE.out _, HB.out _⟩


end Go.Proofs.YtnlaaejdianfjaaGreat
namespace Go.Proofs.YtnlaaejdianfjaaGreat
open Go.RowKit
set_option linter.unusedVariables false
set_option linter.unusedSimpArgs false

/-- A row by numbers; rows by numbers. -/
def rowX : List Int → List Nat → List Vt
  | [], _ => []
  | k :: ks, zs => vaX k zs :: rowX ks zs.tail
def rowsX (ks : List Int) : Nat → List Nat → List (List Vt)
  | 0, _ => []
  | n + 1, zs => if zs = [] then [] else rowX ks zs :: rowsX ks n (zs.drop ks.length)
theorem rowX_len : ∀ (ks : List Int) (zs : List Nat), (rowX ks zs).length = ks.length
  | [], _ => rfl
  | k :: ks, zs => by rw [rowX, List.length_cons, rowX_len ks, List.length_cons]
theorem rowX_at : ∀ (ks : List Int) (zs : List Nat) (i : Nat) (h1 : i < (rowX ks zs).length) (h2 : i < ks.length), (rowX ks zs)[i] = vaX ks[i] (zs.drop i)
  | [], _, i, _, h2 => by simp at h2
  | k :: ks, zs, 0, _, _ => rfl
  | k :: ks, zs, i + 1, h1, h2 => by
    have := rowX_at ks zs.tail i (by simpa [rowX] using h1) (by simpa using h2)
    simp only [rowX, List.getElem_cons_succ]
    rw [this]
    congr 1
    cases zs <;> simp
theorem vaX_ok {k : Int} (hk : k = 1 ∨ k = 2) (zs : List Nat) : (vaX k zs).1 = k ∧ VaOK k (vaX k zs).2.1 (vaX k zs).2.2 := by
  unfold vaX
  rcases hk with rfl | rfl
  · rw [if_neg (by decide)]
    refine ⟨rfl, .inr ⟨rfl, rfl, ?_⟩⟩
    have := hdM_lt zs (m := 12) (by decide)
    by_cases h : hdM zs 12 = 11
    · right; rw [if_pos h]
    · left; rw [if_neg h]; dsimp only; omega
  · rw [if_pos rfl]
    refine ⟨rfl, .inl ⟨rfl, rfl, ?_⟩⟩
    have := hdM_lt zs (m := 5) (by decide)
    rcases (show hdM zs 5 = 0 ∨ hdM zs 5 = 1 ∨ hdM zs 5 = 2 ∨ hdM zs 5 = 3 ∨ hdM zs 5 = 4 by omega) with h | h | h | h | h <;> rw [h] <;> simp
theorem rowX_ok {L : List Co} (hk : ∀ c ∈ L, c.2.1 = 1 ∨ c.2.1 = 2) (zs : List Nat) : RwOK L (rowX (L.map fun c => c.2.1) zs) := by
  refine ⟨by rw [rowX_len, List.length_map], fun i h1 h2 => ?_⟩
  rw [rowX_at _ _ i h2 (by simpa using h1)]
  have := vaX_ok (hk L[i] (List.getElem_mem h1)) (zs.drop i)
  simpa using this
theorem rowsX_len (ks : List Int) : ∀ (n : Nat) (zs : List Nat), (rowsX ks n zs).length ≤ n
  | 0, _ => Nat.le_refl _
  | n + 1, zs => by
    rw [rowsX]
    split
    · simp
    · rw [List.length_cons]
      have := rowsX_len ks n (zs.drop ks.length)
      omega
theorem rowsX_nil (ks : List Int) (n : Nat) : rowsX ks n [] = [] := by cases n <;> simp [rowsX]
theorem rowsX_mem {L : List Co} (hk : ∀ c ∈ L, c.2.1 = 1 ∨ c.2.1 = 2) : ∀ (n : Nat) (zs : List Nat), ∀ r ∈ rowsX (L.map fun c => c.2.1) n zs, RwOK L r
  | 0, _, r, h => by simp [rowsX] at h
  | n + 1, zs, r, h => by
    rw [rowsX] at h
    split at h
    · simp at h
    · rw [List.mem_cons] at h
      rcases h with rfl | h
      · exact rowX_ok hk zs
      · exact rowsX_mem hk n _ r h
set_option maxRecDepth 100000 in
set_option maxHeartbeats 4000000 in
theorem rowLX_any {g : Nat} {zs : List Nat} {w : World} (hp : PkX w g zs) (L : List Co) (hL : L.length ≤ 100) (hk12 : ∀ c ∈ L, c.2.1 = 1 ∨ c.2.1 = 2) (nm : ByteArray) {ca : Option Addr} {cn cc : Nat} (xa : Option Addr) (xn xc : Nat) (hc : RowIs eCol (fun b => b ≠ g) w (.slice ca cn cc) L) :
    Calls Tryz.prog 31 #[.pointer (some ⟨g, 0, none⟩), .agg #[.string nm, .slice ca cn cc, .slice xa xn xc]] w fun e w' => ∃ a m d, e = .returned (.slice a m d) ∧ OwnR 44 3 w.heap.size w' (.slice a m d) ((rowX (L.map fun c => c.2.1) zs).map vC) ∧ PkX w' g (zs.drop L.length) ∧ But g w w' := by
  obtain ⟨hn, hnc, hcm⟩ := row_lens hc
  have hgl := hp.lt
  have bT := Bk.new w (.cells #[.string nm, .slice ca cn cc, .slice xa xn xc] 33)
  have hB0 : But g w (w.alloc (.cells #[.string nm, .slice ca cn cc, .slice xa xn xc] 33)) := (But.refl g w).alloc _
  have hp0 := hp.alloc (.cells #[.string nm, .slice ca cn cc, .slice xa xn xc] 33)
  have hR0 : Hid (∀ w', But g w w' → RowIs eCol (fun b => b ≠ g) w' (.slice ca cn cc) L) := hid fun w' hb => hc.keep (by decide) fun b hq hl => hb.block b hl hq
  clear hp hc
  go_enter Tryz.func31, Tryz.ntmps31
  go_upto_region 1 with fail
  have hs0 : w.heap.size ≤ (w.alloc (.cells #[.string nm, .slice ca cn cc, .slice xa xn xc] 33)).heap.size := by simp
  generalize w.alloc (.cells #[.string nm, .slice ca cn cc, .slice xa xn xc] 33) = W at *
  go_wp2
  go_loopw [5, 6] (fun v5 v6 wr => ∃ (k : Nat) (V : List Vt) (a : Option Addr) (m d : Nat), k ≤ L.length ∧ v6 = .int .i64 k ∧ v5 = .slice a m d ∧ V.length = k ∧ Hid (V = (rowX (L.map fun c => c.2.1) zs).take k) ∧ OwnR 44 3 (w.heap.size + 1) wr (.slice a m d) (V.map vC) ∧ PkX wr g (zs.drop k) ∧ But g w wr ∧ Bk wr w.heap.size (.cells #[.string nm, .slice ca cn cc, .slice xa xn xc] 33)) (fun _ i _ => L.length - (intOf i).toNat)
  case atStart => exact ⟨0, [], none, 0, 0, Nat.zero_le _, rfl, rfl, rfl, hid (by simp), OwnR.nil _ _ _ _, by simpa using hp0, hB0, bT⟩
  case round =>
    obtain ⟨k, V, a, m, d, hk, rfl, rfl, hV, HV, ho, hpr, hBr, bTr⟩ := hrel
    have t1 := bTr.cell 1
    simp only [List.getElem?_toArray, List.getElem?_cons_zero, List.getElem?_cons_succ] at t1
    by_cases hlt : k < L.length
    · obtain ⟨_, _, _, e', _, _, _, hx⟩ := hR0.out wr hBr
      cases e'
      obtain ⟨b, o, hca, hq, hi⟩ := hx (by omega)
      rw [hca] at t1
      obtain ⟨cs, hE, h2, h3⟩ := hi k hlt
      obtain ⟨x, hxl⟩ : ∃ x, L[k] = x := ⟨_, rfl⟩
      have hE' : cs = [.string L[k].1, .int .i64 L[k].2.1, .string L[k].2.2] := hE
      subst hE'
      have c1 : wr.cell? ⟨b, o + k * 3 + 1, none⟩ = some (.int .i64 L[k].2.1) := h3 1 (show 1 < 3 by decide)
      have hx12 := hk12 L[k] (List.getElem_mem hlt)
      rw [hxl] at c1 hx12
      have HVl : Hid _ := hid (valueX_any hpr x.2.1 hx12)
      have HXl : Hid _ := hid hxl
      have hkm : (k : Int) < (cn : Int) := by omega
      replace hca : Hid _ := hid hca
      have hk5 : k ≤ 100 := by omega
      clear h2 h3 hi hx hE bT hB0 hp0 hxl
      go_wp2_with fail
      refine Calls.mono HVl.out ?_
      rintro e w4 ⟨rfl, hp4, hb4⟩
      obtain ⟨⟨vk, i, s⟩, hvx⟩ : ∃ v, vaX x.2.1 (zs.drop k) = v := ⟨_, rfl⟩
      rw [hvx]
      have HVX : Hid _ := hid hvx
      clear hvx
      dsimp only [vV] at *
      have ho4 := ho.but hb4 (by omega)
      have hB4 := hBr.trans hb4
      have bT4 : Bk w4 w.heap.size (.cells #[.string nm, .slice ca cn cc, .slice xa xn xc] 33) := ⟨(hb4.block w.heap.size bTr.lt (by omega)).trans bTr.row⟩
      have ho5 := ho4.alloc (.cells #[.int .i64 vk, .int .i64 i, .string s] 44)
      have hB5 := hB4.alloc (.cells #[.int .i64 vk, .int .i64 i, .string s] 44)
      have bT5 := bT4.later (bal (Below.refl _ _) (.cells #[.int .i64 vk, .int .i64 i, .string s] 44))
      have hp5 := hp4.alloc (.cells #[.int .i64 vk, .int .i64 i, .string s] 44)
      have hblk := ho4.blk
      have hsz5 : w.heap.size + 1 ≤ (w4.alloc (.cells #[.int .i64 vk, .int .i64 i, .string s] 44)).heap.size := by have := bT5.lt; omega
      clear HVl ho4 hB4 bT4 hb4 hp4 ho hpr hBr bTr
      go_wp2_with (first | (at_builtin; go_must (refine wpList_appR Tryz.underlying42 Tryz.infoTVal rfl (by decide) (by decide) rfl (.tmp 14) (.tmp 23) rfl _ (V.map vC) w4.heap.size [.int .i64 vk, .int .i64 i, .string s] rfl rfl ho5 rfl (by simp [Value.oneCell']) (new3 w4 _ _ _ _) (by rw [List.length_map]; omega) hsz5 ?_)) | fail)
      intro v' w6 hO6 hg6 hown
      obtain ⟨a2, m2, d2, rfl⟩ := hO6.sl
      have hb7 := below_grows (Below.refl (w.heap.size + 1) _) hsz5 hg6 fun k e => (hblk k e).1
      have hB6 : But g w w6 := ⟨hb7.os.trans hB5.os, hb7.tape.trans hB5.tape, hb7.output.trans hB5.output, Nat.le_trans hB5.size hb7.size, fun k hk hkg => (hb7.block k (by omega)).trans (hB5.block k hk hkg)⟩
      have bT6 : Bk w6 w.heap.size (.cells #[.string nm, .slice ca cn cc, .slice xa xn xc] 33) := ⟨(hb7.block w.heap.size (by omega)).trans bT5.row⟩
      have hp6 := hp5.grown hg6 fun k e => by have := (hblk k e).1; omega
      have HT : Hid _ := hid (And.intro hO6 (And.intro hB6 (And.intro bT6 hp6)))
      clear hO6 hB6 bT6 hp6 hg6 hown ho5 hB5 bT5 hp5 hblk hb7
      go_wp2
      go_roundw
      case rel =>
        refine ⟨k + 1, V ++ [(vk, i, s)], a2, m2, d2, hlt, by go_num, rfl, by rw [List.length_append]; simp [hV], hid ?_, by rw [List.map_append]; exact HT.out.1, by have := HT.out.2.2.2; rwa [List.tail_drop] at this, HT.out.2.1, HT.out.2.2.1⟩
        have hlx : k < (rowX (L.map fun c => c.2.1) zs).length := by rw [rowX_len, List.length_map]; exact hlt
        rw [List.take_succ_eq_append_getElem hlx, ← HV.out, rowX_at _ _ k hlx (by simpa using hlt)]
        simp only [List.getElem_map]
        rw [HXl.out, HVX.out]
      case measure => simp only [intOf]; omega
    · obtain rfl : k = L.length := by omega
      have hge : ¬ (L.length : Int) < (cn : Int) := by omega
      have hgd : decide ((L.length : Int) < (cn : Int)) = false := by simpa using hge
      go_wp2
      go_ret
      have hVr : V = rowX (L.map fun c => c.2.1) zs := by rw [HV.out, List.take_of_length_le (by rw [rowX_len, List.length_map]; omega)]
      subst hVr
      exact ⟨a, m, d, rfl, ⟨ho.1, owns_base ho.2 (by omega)⟩, by rw [← hn]; exact hpr, hBr⟩

end Go.Proofs.YtnlaaejdianfjaaGreat
namespace Go.Proofs.YtnlaaejdianfjaaGreat
open Go.RowKit
set_option linter.unusedVariables false
set_option linter.unusedSimpArgs false

/-- A slice of bytes that are these numbers. -/
def NumX (w : World) (a : Option Addr) (zs : List Nat) : Prop := 0 < zs.length → ∃ b o, a = some ⟨b, o, none⟩ ∧ b < w.heap.size ∧ ∀ i (h : i < zs.length), zs[i] ≤ 255 ∧ w.cell? ⟨b, o + i, none⟩ = some (.int .u8 (zs[i] : Int))
theorem NumX.later {w w' : World} {a : Option Addr} {zs : List Nat} (h : NumX w a zs) (hb : Below w.heap.size w w') : NumX w' a zs := fun hp => by
  obtain ⟨b, o, ha, hl, hz⟩ := h hp
  exact ⟨b, o, ha, by have := hb.size; omega, fun i hi => ⟨(hz i hi).1, cell_later hb (hz i hi).2⟩⟩
theorem NumX.of {w : World} {a : Option Addr} {len cap : Nat} {xs : List Int} (h : Rd .u8 w a len cap xs) (hx : ∀ x ∈ xs, 0 ≤ x ∧ x ≤ 255) : ∃ zs : List Nat, zs.length = len ∧ NumX w a zs := by
  refine ⟨xs.map Int.toNat, by rw [List.length_map, h.len], fun hp => ?_⟩
  rw [List.length_map] at hp
  obtain ⟨b, o, ha, hc⟩ := h.cells (by rw [← h.len]; exact hp)
  have hb : b < w.heap.size := World.block_lt_of_cell? _ _ (hc 0 (by rw [← h.len]; exact hp))
  refine ⟨b, o, ha, hb, fun i hi => ?_⟩
  rw [List.length_map] at hi
  have hm := hx xs[i] (List.getElem_mem hi)
  rw [List.getElem_map]
  refine ⟨by omega, ?_⟩
  have := hc i (by rw [← h.len]; exact hi)
  rw [nth, List.getElem?_eq_getElem hi] at this
  rw [this, Int.toNat_of_nonneg hm.1]
  rfl
set_option maxRecDepth 100000 in
theorem madeX_any {w : World} {a : Option Addr} {len cap : Nat} {zs : List Nat} (h0 : zs.length = len) (h1 : len ≤ cap) (h2 : cap ≤ 9223372036854775807) (h3 : NumX w a zs) :
    Calls Tryz.prog 21 #[.slice a len cap] w fun e w' => e = .returned (.pointer (some ⟨w.heap.size, 0, none⟩)) ∧ PkX w' w.heap.size zs ∧ Below w.heap.size w w' := by
  have hb := bal (Below.refl _ w) (.cells #[.slice a len cap, .int .i64 ((0 : Nat) : Int)] 101)
  have hp : PkX (w.alloc (.cells #[.slice a len cap, .int .i64 ((0 : Nat) : Int)] 101)) w.heap.size zs := ⟨a, len, cap, 0, ⟨heap_alloc_new w _⟩, by omega, h1, h2, fun hp => by
    obtain ⟨b, o, ha, hl, hz⟩ := h3 hp
    exact ⟨b, o, ha, hl, by have := hb.size; omega, fun i hi => ⟨(hz i hi).1, by rw [Nat.zero_add]; exact cell_later hb (hz i hi).2⟩⟩⟩
  have T : Hid _ := hid (And.intro hp hb)
  clear hp hb h3
  go_enter Tryz.func21, Tryz.ntmps21
  go_wp2
  go_ret
  exact ⟨rfl, T.out.1, T.out.2⟩
theorem Tryz.infoTRow : (Tryz.prog.info? 42).map (fun i => (i.zero, i.size, i.bytes)) = some (some (.slice none 0 0), 1, 24) := by kernel_rfl
/-- What a call that tells rows of its own tells. -/
def TeRs (B : Nat) (w' : World) (v : Value) (R : List (List Vt)) : Prop := ∃ css, OwnR 42 1 B w' v css ∧ css.length = R.length ∧ ∀ i (h1 : i < R.length) (h2 : i < css.length), eRow.E (fun b => B ≤ b ∧ some b ≠ v.ownBlock) w' R[i] css[i]
theorem TeRs.row {B : Nat} {w' : World} {v : Value} {R : List (List Vt)} (h : TeRs B w' v R) : RowIs eRow (fun b => B ≤ b) w' v R := by
  obtain ⟨css, ho, hl, hE⟩ := h
  obtain ⟨a, m, d, rfl⟩ := ho.sl
  exact OwnR.rowE (e := eRow) ho hl.symm (fun b hb _ => hb) fun i h1 h2 => eRow.mono (fun b hb _ => hb.1) (hE i h1 h2)
theorem OwnR.lenV {ty k B : Nat} {w : World} {a : Option Addr} {m d : Nat} {css : List (List Value)} (h : OwnR ty k B w (.slice a m d) css) : m = css.length := by
  rcases h.2 with ⟨_, ⟨h1, h2⟩ | ⟨g, cap, cur, h1, _⟩⟩
  · injection h1 with _ h3 _; omega
  · injection h1 with _ h3 _
theorem TeRs.but {B g : Nat} {w w' : World} {v : Value} {R : List (List Vt)} (h : TeRs B w v R) (hb : But g w w') (hg : g < B) : TeRs B w' v R := by
  obtain ⟨css, ho, hl, hE⟩ := h
  exact ⟨css, ho.but hb hg, hl, fun i h1 h2 => eRow.keep (fun b hq hlt => hb.block b hlt (by have := hq.1; omega)) (hE i h1 h2)⟩
theorem TeRs.base {B B' : Nat} {w : World} {v : Value} {R : List (List Vt)} (h : TeRs B w v R) (hB : B' ≤ B) : TeRs B' w v R := by
  obtain ⟨css, ho, hl, hE⟩ := h
  exact ⟨css, ⟨ho.1, owns_base ho.2 hB⟩, hl, fun i h1 h2 => eRow.mono (fun b hq _ => ⟨Nat.le_trans hB hq.1, hq.2⟩) (hE i h1 h2)⟩
set_option maxRecDepth 100000 in
set_option maxHeartbeats 4000000 in
theorem rowsP_any {w : World} {a : Option Addr} {len cap : Nat} {zs : List Nat} (h0 : zs.length = len) (h1 : len ≤ cap) (h2 : cap ≤ 9223372036854775807) (h3 : NumX w a zs) (L : List Co) (hL : L.length ≤ 100) (hk12 : ∀ c ∈ L, c.2.1 = 1 ∨ c.2.1 = 2) (nm : ByteArray) {ca : Option Addr} {cn cc : Nat} (xa : Option Addr) (xn xc : Nat) (hc : RowIs eCol (fun _ => True) w (.slice ca cn cc) L) (N : Nat) (hN : N ≤ 100) :
    Calls Tryz.prog 11 #[.slice a len cap, .agg #[.string nm, .slice ca cn cc, .slice xa xn xc], .int .i64 (N : Int)] w fun e w' => ∃ v, e = .returned v ∧ TeRs w.heap.size w' v (rowsX (L.map fun c => c.2.1) N zs) ∧ Below w.heap.size w w' := by
  have hw := bal (Below.refl w.heap.size w) (.cells #[.string nm, .slice ca cn cc, .slice xa xn xc] 33)
  have bT := Bk.new w (.cells #[.string nm, .slice ca cn cc, .slice xa xn xc] 33)
  have HM : Hid _ := hid (madeX_any h0 h1 h2 (h3.later hw))
  have hcl : RowIs eCol (fun b => b < w.heap.size) w (.slice ca cn cc) L := hc.mono (by decide) fun _ _ hl => hl
  have hgs : (w.alloc (.cells #[.string nm, .slice ca cn cc, .slice xa xn xc] 33)).heap.size = w.heap.size + 1 := by simp
  have hww := h0
  clear hc h3
  go_enter Tryz.func11, Tryz.ntmps11
  go_upto_region 1 with fail
  generalize w.alloc (.cells #[.string nm, .slice ca cn cc, .slice xa xn xc] 33) = W at *
  obtain ⟨g, hg⟩ : ∃ g, W.heap.size = g := ⟨_, rfl⟩
  rw [hg] at HM
  go_wp2_with fail
  (try rw [hg])
  refine Calls.mono HM.out ?_
  rintro e w2 ⟨rfl, hp2, hb2⟩
  have hgw : w.heap.size < g := by omega
  have hw2 := Below.on hw (hg ▸ hb2)
  have bT2 : Bk w2 w.heap.size (.cells #[.string nm, .slice ca cn cc, .slice xa xn xc] 33) := bT.later (hg ▸ hb2)
  have hg2 : g < w2.heap.size := hp2.lt
  replace hg : Hid _ := hid hg
  clear HM hb2 bT hw
  have HCo : Hid (∀ w', But g w2 w' → RowIs eCol (fun b => b ≠ g) w' (.slice ca cn cc) L) := hid fun w' hb => (hcl.keep (by decide) fun b hq hl => ((hb.block b (by have := hw2.size; omega) (by omega)).trans (hw2.block b hq))).mono (by decide) fun b hq _ => by omega
  go_wp2
  go_loopw [8] (fun v8 wr => ∃ (R : List (List Vt)) (ys : List Nat) (va : Option Addr) (vm vd : Nat), v8 = .slice va vm vd ∧ R.length ≤ N ∧ Hid (rowsX (L.map fun c => c.2.1) N zs = R ++ rowsX (L.map fun c => c.2.1) (N - R.length) ys) ∧ Hid (TeRs w2.heap.size wr (.slice va vm vd) R) ∧ PkX wr g ys ∧ But g w2 wr ∧ Bk wr w.heap.size (.cells #[.string nm, .slice ca cn cc, .slice xa xn xc] 33)) (fun v _ => N - (match v with | .slice _ n _ => n | _ => 0))
  case atStart => exact ⟨[], zs, none, 0, 0, rfl, Nat.zero_le _, hid (by simp), hid ⟨[], OwnR.nil _ _ _ _, rfl, fun i h1 => by simp at h1⟩, hp2, But.refl _ _, bT2⟩
  case round =>
    obtain ⟨R, ys, va, vm, vd, rfl, hRN, HRx, HTe, hpr, hBr, bTr⟩ := hrel
    have hvm : R.length = vm := by
      obtain ⟨css, ho, hl, -⟩ := HTe.out
      rw [← hl]
      exact (ho.lenV).symm
    have HOv : Hid _ := hid (overX_any hpr)
    have HFin : Hid (∀ w' : World, But g w2 w' → Below w.heap.size w w') := hid fun w' hb => hb.below hw2 (by omega) hw2.size
    by_cases hy : ys = []
    · rw [show decide (ys = []) = true from by simpa using hy] at HOv
      go_wp2_with fail
      refine Calls.mono HOv.out ?_
      rintro e w3 ⟨rfl, hp3, hb3⟩
      have hB3 := hBr.trans hb3
      have hR : rowsX (L.map fun c => c.2.1) N zs = R := by rw [HRx.out, hy, rowsX_nil, List.append_nil]
      have HT3 : Hid (TeRs w2.heap.size w3 (.slice va vm vd) R) := hid (HTe.out.but hb3 hg2)
      have HR : Hid _ := hid hR
      clear HOv HRx HTe hR
      go_wp2
      go_ret
      exact ⟨_, rfl, by rw [HR.out]; exact HT3.out.base hw2.size, HFin.out _ hB3⟩
    · rw [show decide (ys = []) = false from by simpa using hy] at HOv
      go_wp2_with fail
      refine Calls.mono HOv.out ?_
      rintro e w3 ⟨rfl, hp3, hb3⟩
      have hB3 := hBr.trans hb3
      have HT3 : Hid (TeRs w2.heap.size w3 (.slice va vm vd) R) := hid (HTe.out.but hb3 hg2)
      have bT3 : Bk w3 w.heap.size (.cells #[.string nm, .slice ca cn cc, .slice xa xn xc] 33) := ⟨(hb3.block w.heap.size bTr.lt (by omega)).trans bTr.row⟩
      clear HOv HTe hb3
      by_cases hlt : R.length < N
      · have t0 := bT3.cell 0
        have t1 := bT3.cell 1
        have t2 := bT3.cell 2
        simp only [List.getElem?_toArray, List.getElem?_cons_zero, List.getElem?_cons_succ] at t0 t1 t2
        have HRw : Hid _ := hid (rowLX_any hp3 L hL hk12 nm xa xn xc (HCo.out w3 hB3))
        have hlI : (vm : Int) < (N : Int) := by omega
        have hs3 : w2.heap.size ≤ w3.heap.size := hB3.size
        obtain ⟨rw0, hrw⟩ : ∃ r, rowX (L.map fun c => c.2.1) ys = r := ⟨_, rfl⟩
        have HNx : Hid (rowsX (L.map fun c => c.2.1) N zs = (R ++ [rw0]) ++ rowsX (L.map fun c => c.2.1) (N - (R ++ [rw0]).length) (ys.drop L.length)) := hid (by
          rw [HRx.out, show N - R.length = (N - (R ++ [rw0]).length) + 1 from by rw [List.length_append]; simp; omega, rowsX, if_neg hy, hrw, List.length_map]
          simp)
        rw [hrw] at HRw
        clear hrw HRx
        go_wp2_with fail
        refine Calls.mono HRw.out ?_
        rintro e w4 ⟨ra, rm, rd, rfl, hor, hp4, hb4⟩
        obtain ⟨css, ho, hcl, hE⟩ := HT3.out
        have hblk3 := ho.blk
        have ho4 := ho.but hb4 hg2
        have ho5 := ho4.alloc (.cells #[.slice ra rm rd] 42)
        have hB4 := hB3.trans hb4
        have hB5 := hB4.alloc (.cells #[.slice ra rm rd] 42)
        have hblk := ho4.blk
        have bT5 : Bk (w4.alloc (.cells #[.slice ra rm rd] 42)) w.heap.size (.cells #[.string nm, .slice ca cn cc, .slice xa xn xc] 33) := (⟨(hb4.block w.heap.size bT3.lt (by omega)).trans bT3.row⟩ : Bk w4 w.heap.size (.cells #[.string nm, .slice ca cn cc, .slice xa xn xc] 33)).later (bal (Below.refl _ _) _)
        have hp5 := hp4.alloc (.cells #[.slice ra rm rd] 42)
        have hsz5 : w2.heap.size ≤ (w4.alloc (.cells #[.slice ra rm rd] 42)).heap.size := hB5.size
        have hrr : RowIs eVal (fun b => w3.heap.size ≤ b) w4 (.slice ra rm rd) rw0 := OwnR.rowE (e := eVal) hor (by simp) (fun b hb _ => hb) fun i h1 h2 => by
          show _ = _
          simp
        have hEn : eRow.E (fun b => w2.heap.size ≤ b ∧ some b ≠ (Value.slice va vm vd).ownBlock) (w4.alloc (.cells #[.slice ra rm rd] 42)) rw0 [.slice ra rm rd] := ⟨ra, rm, rd, rfl, (hrr.keep (by decide) fun b _ hl => (bal (Below.refl _ _) (.cells #[.slice ra rm rd] 42)).block b hl).mono (by decide) fun b hq _ => ⟨Nat.le_trans hs3 hq, fun hbk => by have := (hblk3 b hbk.symm).2; have hq' : w3.heap.size ≤ b := hq; omega⟩⟩
        have hEo : ∀ i (h1 : i < R.length) (h2 : i < css.length), eRow.E (fun b => w2.heap.size ≤ b ∧ some b ≠ (Value.slice va vm vd).ownBlock) (w4.alloc (.cells #[.slice ra rm rd] 42)) R[i] css[i] := fun i h1 h2 => eRow.keep (fun b _ hl => (bal (Below.refl _ _) (.cells #[.slice ra rm rd] 42)).block b hl) (eRow.keep (fun b hq hl => hb4.block b hl (by have := hq.1; omega)) (hE i h1 h2))
        have HEn : Hid _ := hid hEn
        have HEo : Hid _ := hid hEo
        clear HRw HT3 ho ho4 hE hEn hEo hrr hor hb4 hB4 hp4 t0 t1 t2 bT3
        go_wp2_with (first | (at_builtin; go_must (refine wpList_appR Tryz.underlying36 Tryz.infoTRow rfl (by decide) (by decide) rfl (.tmp 20) (.tmp 24) rfl _ css w4.heap.size [.slice ra rm rd] rfl rfl ho5 rfl (by simp [Value.oneCell']) (newV1 w4 _ _) (by omega) hsz5 ?_)) | fail)
        intro v' w6 hO6 hg6 hown
        obtain ⟨a6, m6, d6, rfl⟩ := hO6.sl
        have hb7 := below_grows (Below.refl w2.heap.size _) hsz5 hg6 fun k e => (hblk k e).1
        have hB6 : But g w2 w6 := ⟨hb7.os.trans hB5.os, hb7.tape.trans hB5.tape, hb7.output.trans hB5.output, Nat.le_trans hB5.size hb7.size, fun k hk hkg => (hb7.block k hk).trans (hB5.block k hk hkg)⟩
        have bT6 : Bk w6 w.heap.size (.cells #[.string nm, .slice ca cn cc, .slice xa xn xc] 33) := ⟨(hb7.block w.heap.size (by have := hw2.size; omega)).trans bT5.row⟩
        have hp6 := hp5.grown hg6 fun k e => by have := (hblk k e).1; omega
        have hTe6 : TeRs w2.heap.size w6 (.slice a6 m6 d6) (R ++ [rw0]) := ⟨css ++ [[.slice ra rm rd]], hO6, by simp [hcl], fun i h1 h2 => by
          by_cases hi : i < css.length
          · rw [List.getElem_append_left hi, List.getElem_append_left (by omega)]
            exact eRow.grow (HEo.out i (by omega) hi) hg6 (by rw [World.size_alloc]; exact hown)
          · have hic : i = css.length := by rw [List.length_append] at h2; simp at h2; omega
            have hir : i = R.length := by omega
            rw [List.getElem_append_right (by omega), List.getElem_append_right (by omega)]
            simp only [hic, Nat.sub_self, List.getElem_cons_zero, hcl]
            exact eRow.grow HEn.out hg6 (by rw [World.size_alloc]; exact hown)⟩
        have hm6 : m6 = R.length + 1 := by rw [hO6.lenV]; simp [hcl]
        have HT6 : Hid _ := hid (And.intro hTe6 (And.intro hB6 (And.intro bT6 hp6)))
        clear hO6 hg6 hown hB5 ho5 hblk hblk3 HEn HEo hTe6 hB6 bT6 hp6 hp5 bT5 hb7 hB3 hp3 hBr hpr bTr
        go_wp2
        go_roundw
        case rel => exact ⟨R ++ [rw0], ys.drop L.length, a6, m6, d6, rfl, by rw [List.length_append]; simp; omega, HNx, hid HT6.out.1, HT6.out.2.2.2, HT6.out.2.1, HT6.out.2.2.1⟩
        case measure => dsimp only; omega
      · have hR : rowsX (L.map fun c => c.2.1) N zs = R := by rw [HRx.out, show N - R.length = 0 from by omega]; simp [rowsX]
        have HR : Hid _ := hid hR
        have hge : ¬ (vm : Int) < (N : Int) := by omega
        have hgd : decide ((vm : Int) < (N : Int)) = false := by simpa using hge
        clear HRx hR
        go_wp2
        go_ret
        exact ⟨_, rfl, by rw [HR.out]; exact HT3.out.base hw2.size, HFin.out _ hB3⟩

end Go.Proofs.YtnlaaejdianfjaaGreat
namespace Go.Proofs.YtnlaaejdianfjaaGreat
open Go.RowKit
set_option linter.unusedVariables false
set_option linter.unusedSimpArgs false

end Go.Proofs.YtnlaaejdianfjaaGreat
namespace Go.Proofs.YtnlaaejdianfjaaGreat
open Go.ChangeShapes Go.WideShapes Go.ChangeAt Go.RowKit
set_option linter.unusedVariables false
set_option linter.unusedSimpArgs false

end Go.Proofs.YtnlaaejdianfjaaGreat
namespace Go.Proofs.YtnlaaejdianfjaaGreat
open Go.RowKit
set_option linter.unusedVariables false
set_option linter.unusedSimpArgs false

/-- Where a row stands, from behind: ahead of the first (from behind) that it may stand behind. -/
def plcP (st : List Vt → Bool) (out : List (List Vt)) : Nat → Nat
  | 0 => 0
  | k + 1 => if st (out.getD k []) then k + 1 else plcP st out k
/-- May x stand behind y? -/
def behP (bn : Nat) (ds : Bool) (x y : List Vt) : Bool := if ds then decide (0 ≤ cmpVt (y.getD bn vZ) (x.getD bn vZ)) else decide (cmpVt (y.getD bn vZ) (x.getD bn vZ) ≤ 0)
/-- Has each row the by-th? -/
def wholeP (by_ : Int) (L : List (List Vt)) : Bool := decide (0 ≤ by_) && L.all fun r => decide (by_ < (r.length : Int))
def insP (bn : Nat) (ds : Bool) (out : List (List Vt)) (x : List Vt) : List (List Vt) := out.take (plcP (behP bn ds x) out out.length) ++ x :: out.drop (plcP (behP bn ds x) out out.length)
/-- Rows sorted. -/
def srtP (by_ : Int) (ds : Bool) (L : List (List Vt)) : List (List Vt) := if wholeP by_ L then L.foldl (insP by_.toNat ds) [] else L
end Go.Proofs.YtnlaaejdianfjaaGreat
