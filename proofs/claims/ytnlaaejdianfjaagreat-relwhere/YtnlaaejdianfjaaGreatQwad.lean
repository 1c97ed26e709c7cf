import Derived.Test.YtnlaaejdianfjaaGreatQwac
namespace Go.Proofs.YtnlaaejdianfjaaGreat
open Go.RowKit
set_option linter.unusedVariables false

/-- Picks lie in block g: their row, and how many are taken. -/
structure Pq2 (w : World) (g : Nat) (a : Option Addr) (len cap n : Nat) : Prop where
  row : w.heap[g]? = some (.cells #[.slice a len cap, .int .i64 (n : Int)] 101 (0, 0))
theorem Pq2.lt {w : World} {g : Nat} {a : Option Addr} {len cap n : Nat} (h : Pq2 w g a len cap n) : g < w.heap.size := (Array.getElem?_eq_some_iff.1 h.row).1
theorem Pq2.cells {w : World} {g : Nat} {a : Option Addr} {len cap n : Nat} (h : Pq2 w g a len cap n) : w.cell? ⟨g, 0, none⟩ = some (.slice a len cap) ∧ w.cell? ⟨g, 1, none⟩ = some (.int .i64 n) := by
  unfold World.cell?; rw [h.row]; exact ⟨rfl, rfl⟩
theorem Pq2.free {w : World} {g : Nat} {a : Option Addr} {len cap n : Nat} (h : Pq2 w g a len cap n) : w.frozen? ⟨g, 1, none⟩ = false := by
  unfold World.frozen?; rw [h.row]; rfl
theorem Pq2.set {w : World} {g : Nat} {a : Option Addr} {len cap n : Nat} (h : Pq2 w g a len cap n) (m : Nat) : Pq2 (w.setCell ⟨g, 1, none⟩ (.int .i64 (m : Int))) g a len cap m := ⟨by simp [World.setCell, Array.getElem?_modify, h.row]⟩
/-- The picks' numbers lie below block g. -/
def Nums (w : World) (g : Nat) (a : Option Addr) (len : Nat) : Prop := 0 < len → ∃ b o, a = some ⟨b, o, none⟩ ∧ b < g ∧ b < w.heap.size ∧ ∀ k, k < len → ∃ z : Int, 0 ≤ z ∧ z ≤ 255 ∧ w.cell? ⟨b, o + k, none⟩ = some (.int .u8 z)
theorem Nums.keep {w w' : World} {g : Nat} {a : Option Addr} {len : Nat} (h : Nums w g a len) (hs : w.heap.size ≤ w'.heap.size) (hk : ∀ k, k < g → w'.heap[k]? = w.heap[k]?) : Nums w' g a len := fun hp => by
  obtain ⟨b, o, ha, hb, hl, hz⟩ := h hp
  refine ⟨b, o, ha, hb, by omega, fun k hk' => ?_⟩
  obtain ⟨z, z0, z1, hc⟩ := hz k hk'
  exact ⟨z, z0, z1, (World.cell?_of_block (a := ⟨b, _, none⟩) (hk b hb)).trans hc⟩
/-- Picks lie in block g; r of them are left. -/
structure Pk (w : World) (g r : Nat) : Prop where
  on : ∃ a len cap n, Pq2 w g a len cap n ∧ n + r = len ∧ len ≤ cap ∧ cap ≤ 9223372036854775807 ∧ Nums w g a len
theorem Pk.lt {w : World} {g r : Nat} (h : Pk w g r) : g < w.heap.size := by
  obtain ⟨a, len, cap, n, hq, _⟩ := h.on
  exact hq.lt
theorem Pk.keep {w w' : World} {g r : Nat} (h : Pk w g r) (hs : w.heap.size ≤ w'.heap.size) (hk : ∀ k, k ≤ g → w'.heap[k]? = w.heap[k]?) : Pk w' g r := by
  obtain ⟨a, len, cap, n, hq, h1, h2, h3, h4⟩ := h.on
  exact ⟨a, len, cap, n, ⟨(hk g (Nat.le_refl _)).trans hq.row⟩, h1, h2, h3, h4.keep hs fun k hk' => hk k (by omega)⟩
theorem Pk.later {w w' : World} {g r : Nat} (h : Pk w g r) (hb : Below w.heap.size w w') : Pk w' g r := h.keep hb.size fun k hk => hb.block k (Nat.lt_of_le_of_lt hk h.lt)
theorem Pk.alloc {w : World} {g r : Nat} (h : Pk w g r) (o : Obj) : Pk (w.alloc o) g r := h.later ((Below.refl _ _).alloc (Nat.le_refl _) o)
theorem Pk.drewN {w : World} {g r : Nat} (h : Pk w g r) (n : Nat) : Pk (w.drewN n) g r := h.keep (Nat.le_refl _) fun _ _ => rfl
theorem Pk.other {w : World} {g r : Nat} (h : Pk w g r) {b : Nat} (hb : g < b) (o : Nat) (v : Value) : Pk (w.setCell ⟨b, o, none⟩ v) g r :=
  h.keep (by simp [World.setCell]) fun k hk => Below.heap_setCell _ _ _ _ (by show k ≠ b; omega)
theorem Pk.set7 {w : World} {g r : Nat} (h : Pk w g r) {b : Nat} (hb : g < b) (op : Int) (p : Pay) (sl : Value) : Pk (set7 w b op p sl) g r :=
  h.keep (by rw [set7_size]; exact Nat.le_refl _) fun k hk => set7_heap _ _ _ _ _ (by omega)
/-- How many are left, for a measure. -/
def left (g : Nat) (w : World) : Nat := match w.cell? ⟨g, 0, none⟩, w.cell? ⟨g, 1, none⟩ with
  | some (.slice _ len _), some (.int _ n) => len - n.toNat
  | _, _ => 0
/-- Fewer are left, if there were some. -/
def Less (r r' : Nat) : Prop := r' ≤ r ∧ (0 < r → r' < r)
theorem Less.on {a b c : Nat} (h : Less a b) (k : c ≤ b) : Less a c := ⟨Nat.le_trans k h.1, fun hp => Nat.lt_of_le_of_lt k (h.2 hp)⟩

set_option maxRecDepth 100000 in
set_option maxHeartbeats 1000000 in
theorem num_any {g r : Nat} {w : World} (h : Pk w g r) (m : Nat) (hm : 0 < m) (hm2 : m ≤ 100) :
    Calls Tryz.prog 46 #[.pointer (some ⟨g, 0, none⟩), .int .i64 (m : Int)] w fun e w' => ∃ k r', e = .returned (.int .i64 ((k : Nat) : Int)) ∧ k < m ∧ Less r r' ∧ Pk w' g r' ∧ But g w w' := by
  obtain ⟨a, len, cap, n, hq, h1, h2, h3, h4⟩ := h.on
  obtain ⟨c0, c1⟩ := hq.cells
  have f1 := hq.free
  have hgl := hq.lt
  by_cases hr : r = 0
  · subst hr
    obtain rfl : n = len := by omega
    have g1 : decide ((n : Int) ≤ (n : Int)) = true := by simp
    have HP : Hid _ := hid h
    clear h h4 h1 hq
    go_enter Tryz.func46, Tryz.ntmps46
    go_wp2
    go_quiet (fail)
    have HQ : Hid _ := hid (HP.out.drewN nq)
    have HB : Hid _ := hid ((But.refl g w).rdrew nq)
    clear HP
    generalize w.drewN nq = W at *
    go_wp2
    go_ret
    exact ⟨0, 0, rfl, hm, ⟨Nat.le_refl _, fun h => by omega⟩, HQ.out, HB.out⟩
  · have hlt : n < len := by omega
    have g1 : decide ((len : Int) ≤ (n : Int)) = false := by simp; omega
    obtain ⟨b, o, rfl, hbg, hbl, hz⟩ := h4 (by omega)
    obtain ⟨z, z0, z1, hc⟩ := hz n hlt
    have HP : Hid (Pk (w.setCell ⟨g, 1, none⟩ (.int .i64 ((n + 1 : Nat) : Int))) g (r - 1)) := hid ⟨_, len, cap, n + 1, hq.set _, by omega, h2, h3, h4.keep (by simp [World.setCell]) fun k hk => Below.heap_setCell _ _ _ _ (by show k ≠ g; omega)⟩
    have hP2 := hq.set (n + 1)
    obtain ⟨d0, d1⟩ := hP2.cells
    have hc2 : (w.setCell ⟨g, 1, none⟩ (.int .i64 ((n + 1 : Nat) : Int))).cell? ⟨b, o + n, none⟩ = some (.int .u8 z) := (World.cell?_of_block (a := ⟨b, _, none⟩) (Below.heap_setCell _ _ _ _ (by show b ≠ g; omega))).trans hc
    have hbe : ((n + 1 : Nat) : Int) = (n : Int) + 1 := by omega
    have hB : But g w (w.setCell ⟨g, 1, none⟩ (.int .i64 ((n + 1 : Nat) : Int))) := But.set _ _ _ _
    rw [hbe] at d0 d1 hc2 HP hB
    clear h h4 hq hP2 hz hbe
    go_enter Tryz.func46, Tryz.ntmps46
    go_wp2
    go_quiet (fail)
    obtain ⟨V, hV⟩ : ∃ V, w.drewN nq = V := ⟨_, rfl⟩
    have e0 : V.cell? ⟨g, 0, none⟩ = some (.slice (some ⟨b, o, none⟩) len cap) := by rw [← hV]; exact c0
    have e1 : V.cell? ⟨g, 1, none⟩ = some (.int .i64 n) := by rw [← hV]; exact c1
    have e2 : V.frozen? ⟨g, 1, none⟩ = false := by rw [← hV]; exact f1
    have e3 : V.heap.size = w.heap.size := by rw [← hV]; rfl
    have e4 : (V.setCell ⟨g, 1, none⟩ (.int .i64 ((n : Int) + 1))).cell? ⟨b, o + n, none⟩ = some (.int .u8 z) := by rw [← hV]; exact hc2
    have e5 : (V.setCell ⟨g, 1, none⟩ (.int .i64 ((n : Int) + 1))).cell? ⟨g, 0, none⟩ = some (.slice (some ⟨b, o, none⟩) len cap) := by rw [← hV]; exact d0
    have e6 : (V.setCell ⟨g, 1, none⟩ (.int .i64 ((n : Int) + 1))).cell? ⟨g, 1, none⟩ = some (.int .i64 ((n : Int) + 1)) := by rw [← hV]; exact d1
    have HQ : Hid (Pk (V.setCell ⟨g, 1, none⟩ (.int .i64 ((n : Int) + 1))) g (r - 1)) := hid (by rw [← hV]; exact HP.out.keep (Nat.le_refl _) fun _ _ => rfl)
    have HC : Hid (But g w (V.setCell ⟨g, 1, none⟩ (.int .i64 ((n : Int) + 1)))) := hid (by rw [← hV]; exact ⟨hB.os, hB.tape, hB.output, hB.size, hB.block⟩)
    clear c0 c1 f1 d0 d1 hc hc2 HP hB
    rw [hV]
    clear hV
    go_wp2
    obtain ⟨U, hU⟩ : ∃ U, V.setCell ⟨g, 1, none⟩ (.int .i64 ((n : Int) + 1)) = U := ⟨_, rfl⟩
    rw [hU] at e4 e5 e6 HQ HC ⊢
    clear hU e0 e1 e2 e3
    go_quiet (fail)
    have HQ2 : Hid _ := hid (HQ.out.drewN nq)
    have HC2 : Hid _ := hid (HC.out.rdrew nq)
    generalize U.drewN nq = T at *
    go_wp2
    go_ret
    have hmi : (0 : Int) < (m : Int) := by omega
    have hz0 : 0 ≤ z % (m : Int) := Int.emod_nonneg _ (by omega)
    have hz1 : z % (m : Int) < (m : Int) := Int.emod_lt_of_pos _ hmi
    refine ⟨(z % (m : Int)).toNat, r - 1, ?_, by omega, ⟨by omega, fun _ => by omega⟩, HQ2.out, HC2.out⟩
    show Ending.returned (.int .i64 (z % (m : Int))) = _
    rw [Int.toNat_of_nonneg hz0]
/-- A row of texts that was just made. -/
theorem strs_new {g : Nat} {w w1 : World} (cs : Array Value) (hb : But g (w.alloc (.cells cs 9)) w1) (hg : g < w.heap.size) (k : Nat) (hk : k < cs.size) : w1.cell? ⟨w.heap.size, k, none⟩ = some cs[k] := by
  refine hb.cell ?_ (by show w.heap.size ≠ g; omega)
  unfold World.cell?
  rw [heap_alloc_new w _]
  simp [hk]
/-- A block of three cells: a value's. -/
structure Bv (w : World) (b : Nat) (k i : Int) (s : ByteArray) : Prop where
  row : w.heap[b]? = some (.cells #[.int .i64 k, .int .i64 i, .string s] 44 (0, 0))
theorem Bv.lt {w : World} {b : Nat} {k i : Int} {s : ByteArray} (h : Bv w b k i s) : b < w.heap.size := (Array.getElem?_eq_some_iff.1 h.row).1
theorem Bv.cells {w : World} {b : Nat} {k i : Int} {s : ByteArray} (h : Bv w b k i s) : w.cell? ⟨b, 0, none⟩ = some (.int .i64 k) ∧ w.cell? ⟨b, 1, none⟩ = some (.int .i64 i) ∧ w.cell? ⟨b, 2, none⟩ = some (.string s) := by
  unfold World.cell?; rw [h.row]; exact ⟨rfl, rfl, rfl⟩
theorem Bv.free {w : World} {b : Nat} {k i : Int} {s : ByteArray} (h : Bv w b k i s) : w.frozen? ⟨b, 0, none⟩ = false ∧ w.frozen? ⟨b, 1, none⟩ = false ∧ w.frozen? ⟨b, 2, none⟩ = false := by
  unfold World.frozen?; rw [h.row]; exact ⟨rfl, rfl, rfl⟩
theorem Bv.but {w w' : World} {b g : Nat} {k i : Int} {s : ByteArray} (h : Bv w b k i s) (hb : But g w w') (hg : b ≠ g) : Bv w' b k i s := ⟨(hb.block b h.lt hg).trans h.row⟩
theorem But.new3 {g : Nat} {a w : World} (h : But g a w) {b : Nat} (hb : a.heap.size ≤ b) (x y z : Value) : But g a (((w.setCell ⟨b, 0, none⟩ x).setCell ⟨b, 1, none⟩ y).setCell ⟨b, 2, none⟩ z) := ((h.new hb 0 _).new hb 1 _).new hb 2 _
theorem Pk.new3 {w : World} {g r : Nat} (h : Pk w g r) {b : Nat} (hb : g < b) (x y z : Value) : Pk (((w.setCell ⟨b, 0, none⟩ x).setCell ⟨b, 1, none⟩ y).setCell ⟨b, 2, none⟩ z) g r := ((h.other hb _ _).other hb _ _).other hb _ _
/-- What Value tells. -/
def VaOK (k i : Int) (s : ByteArray) : Prop := (k = 2 ∧ i = 0 ∧ s ∈ [⟨#[97]⟩, ⟨#[98]⟩, ⟨#[]⟩, ⟨#[105, 116, 39, 115]⟩, ⟨#[122, 122]⟩]) ∨ (k = 1 ∧ s = ⟨#[]⟩ ∧ ((0 ≤ i ∧ i < 11) ∨ i = 9223372036854775807))
set_option maxRecDepth 100000 in
set_option maxHeartbeats 1000000 in
theorem value_any {g r : Nat} {w : World} (h : Pk w g r) (kind : Int) (hk : kind = 1 ∨ kind = 2) :
    Calls Tryz.prog 50 #[.pointer (some ⟨g, 0, none⟩), .int .i64 kind] w fun e w' => ∃ i s r', e = .returned (.agg #[.int .i64 kind, .int .i64 i, .string s]) ∧ VaOK kind i s ∧ r' ≤ r ∧ Pk w' g r' ∧ But g w w' := by
  have hgl := h.lt
  have hv : Bv (w.alloc (.cells #[.int .i64 0, .int .i64 0, .string ⟨#[]⟩] 44)) w.heap.size 0 0 ⟨#[]⟩ := ⟨heap_alloc_new w _⟩
  rcases hk with rfl | rfl
  · have HN : Hid _ := hid (num_any (h.alloc (.cells #[.int .i64 0, .int .i64 0, .string ⟨#[]⟩] 44)) 12 (by decide) (by decide))
    clear h
    go_enter Tryz.func50, Tryz.ntmps50
    go_wp2_with fail
    refine Calls.mono HN.out ?_
    rintro e w1 ⟨k, r', rfl, hk, hl, hp, hb⟩
    have hB : But g w w1 := ((But.refl g w).alloc _).trans hb
    have hv1 := hv.but hb (by omega)
    obtain ⟨c0, c1, c2⟩ := hv1.cells
    obtain ⟨f0, f1, f2⟩ := hv1.free
    have hbl := hv1.lt
    by_cases h11 : k = 11
    · subst h11
      have HE : Hid _ := hid (hp.new3 (b := w.heap.size) hgl (.int .i64 1) (.int .i64 9223372036854775807) (.string ⟨#[]⟩))
      have HB : Hid _ := hid (hB.new3 (b := w.heap.size) (Nat.le_refl _) (.int .i64 1) (.int .i64 9223372036854775807) (.string ⟨#[]⟩))
      clear hv hv1 hp hB hb HN
      go_wp2
      exact bodyPost_ret (v := .agg #[.int .i64 1, .int .i64 9223372036854775807, .string ⟨#[]⟩]) (by simp [results, Tryz.results50, go_sem, c0, c1, c2]) rfl ⟨_, _, r', rfl, .inr ⟨rfl, rfl, .inr rfl⟩, hl.1, HE.out, HB.out⟩
    · have g1 : ((k : Int) == 11) = false := by simp; omega
      have HE : Hid _ := hid (hp.new3 (b := w.heap.size) hgl (.int .i64 1) (.int .i64 k) (.string ⟨#[]⟩))
      have HB : Hid _ := hid (hB.new3 (b := w.heap.size) (Nat.le_refl _) (.int .i64 1) (.int .i64 k) (.string ⟨#[]⟩))
      clear hv hv1 hp hB hb HN
      go_wp2
      exact bodyPost_ret (v := .agg #[.int .i64 1, .int .i64 k, .string ⟨#[]⟩]) (by simp [results, Tryz.results50, go_sem, c0, c1, c2]) rfl ⟨_, _, r', rfl, .inr ⟨rfl, rfl, .inl ⟨by omega, by omega⟩⟩, hl.1, HE.out, HB.out⟩
  · have HN : Hid _ := hid (num_any ((h.alloc (.cells #[.int .i64 0, .int .i64 0, .string ⟨#[]⟩] 44)).alloc (.cells #[.string ⟨#[97]⟩, .string ⟨#[98]⟩, .string ⟨#[]⟩, .string ⟨#[105, 116, 39, 115]⟩, .string ⟨#[122, 122]⟩] 9)) 5 (by decide) (by decide))
    clear h
    go_enter Tryz.func50, Tryz.ntmps50
    go_wp2_with fail
    refine Calls.mono HN.out ?_
    rintro e w1 ⟨k, r', rfl, hk, hl, hp, hb⟩
    have hB : But g w w1 := (((But.refl g w).alloc _).alloc _).trans hb
    have hc := strs_new _ hb (by simp; omega)
    have c4 := hc 4 (by decide)
    have c3 := hc 3 (by decide)
    have d0 := hc 0 (by decide)
    have d1 := hc 1 (by decide)
    have d2 := hc 2 (by decide)
    simp only [List.getElem_toArray, List.getElem_cons_zero, List.getElem_cons_succ, World.size_alloc] at d0 d1 d2 c3 c4
    have hv1 := (Bv.mk ((Below.heap_alloc _ _ _ hv.lt).trans hv.row) : Bv ((w.alloc (.cells #[.int .i64 0, .int .i64 0, .string ⟨#[]⟩] 44)).alloc (.cells #[.string ⟨#[97]⟩, .string ⟨#[98]⟩, .string ⟨#[]⟩, .string ⟨#[105, 116, 39, 115]⟩, .string ⟨#[122, 122]⟩] 9)) w.heap.size 0 0 ⟨#[]⟩).but hb (by omega)
    obtain ⟨c0, c1, c2⟩ := hv1.cells
    obtain ⟨f0, f1, f2⟩ := hv1.free
    have hbl : w.heap.size + 1 < w1.heap.size := by have := hb.size; simp at this; omega
    have HE : Hid (∀ s, _) := hid fun s => hp.new3 (b := w.heap.size) hgl (.int .i64 2) (.int .i64 0) (.string s)
    have HB : Hid (∀ s, _) := hid fun s => hB.new3 (b := w.heap.size) (Nat.le_refl _) (.int .i64 2) (.int .i64 0) (.string s)
    clear hv hv1 hp hB hb HN hc
    rcases (show k = 0 ∨ k = 1 ∨ k = 2 ∨ k = 3 ∨ k = 4 by omega) with rfl | rfl | rfl | rfl | rfl
    · go_wp2
      exact bodyPost_ret (v := .agg #[.int .i64 2, .int .i64 0, .string ⟨#[97]⟩]) (by simp [results, Tryz.results50, go_sem, c0, c1, c2]) rfl ⟨_, _, r', rfl, .inl ⟨rfl, rfl, by simp⟩, hl.1, HE.out _, HB.out _⟩
    · go_wp2
      exact bodyPost_ret (v := .agg #[.int .i64 2, .int .i64 0, .string ⟨#[98]⟩]) (by simp [results, Tryz.results50, go_sem, c0, c1, c2]) rfl ⟨_, _, r', rfl, .inl ⟨rfl, rfl, by simp⟩, hl.1, HE.out _, HB.out _⟩
    · go_wp2
      exact bodyPost_ret (v := .agg #[.int .i64 2, .int .i64 0, .string ⟨#[]⟩]) (by simp [results, Tryz.results50, go_sem, c0, c1, c2]) rfl ⟨_, _, r', rfl, .inl ⟨rfl, rfl, by simp⟩, hl.1, HE.out _, HB.out _⟩
    · go_wp2
      exact bodyPost_ret (v := .agg #[.int .i64 2, .int .i64 0, .string ⟨#[105, 116, 39, 115]⟩]) (by simp [results, Tryz.results50, go_sem, c0, c1, c2]) rfl ⟨_, _, r', rfl, .inl ⟨rfl, rfl, by simp⟩, hl.1, HE.out _, HB.out _⟩
    · go_wp2
      exact bodyPost_ret (v := .agg #[.int .i64 2, .int .i64 0, .string ⟨#[122, 122]⟩]) (by simp [results, Tryz.results50, go_sem, c0, c1, c2]) rfl ⟨_, _, r', rfl, .inl ⟨rfl, rfl, by simp⟩, hl.1, HE.out _, HB.out _⟩

set_option maxRecDepth 100000 in
set_option maxHeartbeats 1000000 in
theorem lit_any (k i : Int) (s : ByteArray) (w : World) :
    Calls Tryz.prog 49 #[.agg #[.int .i64 k, .int .i64 i, .string s]] w fun e w' => e = .returned (exV 1 (k, i, s, ⟨#[]⟩, ⟨#[]⟩) (.slice none 0 0)) ∧ Below w.heap.size w w' := by
  unfold exV
  go_enter Tryz.func49, Tryz.ntmps49
  go_wp2
  refine bodyPost_ret (v := exV 1 (k, i, s, ⟨#[]⟩, ⟨#[]⟩) (.slice none 0 0)) (by simp [results, Tryz.results49, go_sem, exV]) rfl ⟨rfl, ?_⟩
  exact bal (bal (Below.refl _ _) _) _

set_option maxRecDepth 100000 in
set_option maxHeartbeats 1000000 in
theorem playTwo_any (op : Int) (o1 : Int) (p1 : Pay) (s1 : Value) (o2 : Int) (p2 : Pay) (s2 : Value) (w : World) :
    Calls Tryz.prog 47 #[.int .i64 op, exV o1 p1 s1, exV o2 p2 s2] w fun e w' => ∃ b, e = .returned (exV op nilP (.slice (some ⟨b, 0, none⟩) 2 2)) ∧ w.heap.size ≤ b ∧ Below w.heap.size w w' ∧ Ce w' b 0 o1 p1 s1 ∧ Ce w' b 7 o2 p2 s2 := by
  obtain ⟨k1, i1, t1, b1, m1⟩ := p1
  obtain ⟨k2, i2, t2, b2, m2⟩ := p2
  unfold exV
  go_enter Tryz.func47, Tryz.ntmps47
  go_wp2
  refine bodyPost_ret (v := exV op nilP (.slice (some ⟨w.heap.size + 3, 0, none⟩) 2 2)) (by simp [results, Tryz.results47, go_sem, exV, nilP]) rfl ⟨w.heap.size + 3, rfl, by omega, ?_, ?_, ?_⟩
  · exact bal (bal (bal (bal (Below.refl _ _) _) _) _) _
  · unfold Ce
    simp [go_sem]
  · unfold Ce
    simp [go_sem]

/-- Columns, each with its kind. -/
abbrev Cl2 := List (It × Int)
def eInt : Ek Int := ⟨1, fun _ _ z cs => cs = [.int .i64 z], fun _ h => h, fun _ h => h⟩
theorem RowIs.item1 {Q : Nat → Prop} {w : World} {a : Option Addr} {n c : Nat} {l : List It} (h : RowIs eItem Q w (.slice a n c) l) {k : Nat} (hk : k < l.length) : ∃ b o, a = some ⟨b, o, none⟩ ∧ Q b ∧ w.cell? ⟨b, o + k * 3, none⟩ = some (.int .i64 l[k].1) ∧ w.cell? ⟨b, o + k * 3 + 1, none⟩ = some (.string l[k].2.1) ∧ w.cell? ⟨b, o + k * 3 + 2, none⟩ = some (.string l[k].2.2) := by
  obtain ⟨ao, n', c', hv, hl, hn, hc, hx⟩ := h
  cases hv
  obtain ⟨b, o, ha, hq, hi⟩ := hx (by omega)
  obtain ⟨cs, hcs, _, hc⟩ := hi k hk
  have hcs' : cs = [.int .i64 l[k].1, .string l[k].2.1, .string l[k].2.2] := hcs
  subst hcs'
  exact ⟨b, o, ha, hq, hc 0 (show 0 < 3 by decide), hc 1 (show 1 < 3 by decide), hc 2 (show 2 < 3 by decide)⟩
theorem RowIs.int1 {Q : Nat → Prop} {w : World} {a : Option Addr} {n c : Nat} {l : List Int} (h : RowIs eInt Q w (.slice a n c) l) {k : Nat} (hk : k < l.length) : ∃ b o, a = some ⟨b, o, none⟩ ∧ Q b ∧ w.cell? ⟨b, o + k, none⟩ = some (.int .i64 l[k]) := by
  obtain ⟨ao, n', c', hv, hl, hn, hc, hx⟩ := h
  cases hv
  obtain ⟨b, o, ha, hq, hi⟩ := hx (by omega)
  obtain ⟨cs, hcs, _, hc⟩ := hi k hk
  have hcs' : cs = [.int .i64 l[k]] := hcs
  subst hcs'
  have := hc 0 (show 0 < 1 by decide)
  rw [show o + k * eInt.k + 0 = o + k from by show o + k * 1 + 0 = o + k; omega] at this
  exact ⟨b, o, ha, hq, this⟩
/-- How often a name is a column's. -/
def cnt (C : Cl2) (nm : ByteArray) : Nat := (C.filter fun x => decide (x.1.2.2 = nm)).length
theorem cnt_step {C : Cl2} {nm : ByteArray} {k : Nat} (hk : k < C.length) : cnt (C.take (k + 1)) nm = cnt (C.take k) nm + if C[k].1.2.2 = nm then 1 else 0 := by
  rw [cnt, cnt, List.take_succ_eq_append_getElem hk, List.filter_append, List.length_append]
  congr 1
  by_cases h : C[k].1.2.2 = nm <;> simp [h]
theorem cnt_le (C : Cl2) (nm : ByteArray) : cnt C nm ≤ C.length := List.length_filter_le _ _

set_option maxRecDepth 100000 in
set_option maxHeartbeats 2000000 in
theorem once_any {Q : Nat → Prop} {w : World} {a : Option Addr} {n c : Nat} {C : Cl2} (h : RowIs eItem Q w (.slice a n c) (C.map Prod.fst)) (hn : C.length ≤ 100) (nm : ByteArray) :
    Calls Tryz.prog 82 #[.slice a n c, .string nm] w fun e w' => e = .returned (.bool (decide (cnt C nm = 1))) ∧ w' = w := by
  have hlen : n = C.length := by obtain ⟨ao, n', c', hv, hl, _⟩ := h; cases hv; rw [← hl, List.length_map]
  have HK : Hid (∀ k (hk : k < n), ∃ b o x, a = some ⟨b, o, none⟩ ∧ b < w.heap.size ∧ w.cell? ⟨b, o + k * 3 + 2, none⟩ = some (.string x) ∧ cnt (C.take (k + 1)) nm = cnt (C.take k) nm + if x = nm then 1 else 0) := hid fun k hk => by
    have hk' : k < (C.map Prod.fst).length := by rw [List.length_map]; omega
    obtain ⟨b, o, ha, _, _, _, h2⟩ := h.item1 hk'
    refine ⟨b, o, _, ha, World.block_lt_of_cell? _ _ h2, h2, ?_⟩
    rw [cnt_step (by omega : k < C.length)]
    simp
  have HD : Hid (decide (cnt C nm = 1) = decide (((cnt (C.take n) nm : Nat) : Int) = 1)) := hid (by rw [List.take_of_length_le (by omega)]; by_cases hc : cnt C nm = 1 <;> simp [hc]; omega)
  have HL : Hid (∀ k, cnt (C.take k) nm ≤ 100) := hid fun k => by have := cnt_le (C.take k) nm; have := List.length_take_le k C; rw [List.length_take] at *; omega
  generalize decide (cnt C nm = 1) = D at *
  clear h
  go_enter Tryz.func82, Tryz.ntmps82
  go_wp2
  go_loop [5, 6] (fun x i => ∃ k m : Nat, k ≤ n ∧ i = .int .i64 k ∧ x = .int .i64 m ∧ m ≤ 100 ∧ Hid (m = cnt (C.take k) nm)) (fun _ i => n - (intOf i).toNat)
  case atStart => exact ⟨0, 0, Nat.zero_le _, rfl, rfl, by omega, hid rfl⟩
  case round =>
    obtain ⟨k, m, hk, rfl, rfl, hm, HM⟩ := hrel
    by_cases hlt : k < n
    · obtain ⟨b, o, x, rfl, hbl, hc, hst⟩ := HK.out k hlt
      have hs : (x.toList == nm.toList) = eqS x nm := same_str x nm
      have HL2 := HL.out (k + 1)
      rw [hst, ← HM.out] at HL2
      by_cases hx : x = nm
      · subst hx
        have he : eqS x x = true := by simp [eqS]
        have HS : Hid _ := hid hst
        rw [if_pos rfl] at HS HL2
        rw [he] at hs
        clear hst HK HL HD
        go_wp2
        go_round
        case rel => exact ⟨k + 1, m + 1, by omega, by go_num, by go_num, by omega, hid (by rw [HS.out, HM.out])⟩
        case measure => simp only [intOf]; omega
      · have he : eqS x nm = false := by
          cases hc : eqS x nm with
          | false => rfl
          | true => exact absurd (by simpa [eqS] using hc) hx
        have HS : Hid _ := hid hst
        rw [if_neg hx] at HS
        rw [he] at hs
        clear hst HK HL HD HL2
        go_wp2
        go_round
        case rel => exact ⟨k + 1, m, by omega, by go_num, rfl, by omega, hid (by rw [HS.out, HM.out]; rfl)⟩
        case measure => simp only [intOf]; omega
    · obtain rfl : k = n := by omega
      have hD := HD.out
      rw [← HM.out] at hD
      clear HD HK HL HM
      go_wp2
      go_ret
      exact ⟨rfl, rfl⟩
end Go.Proofs.YtnlaaejdianfjaaGreat
namespace Go.Proofs.YtnlaaejdianfjaaGreat
open Go.RowKit
set_option linter.unusedVariables false
set_option linter.unusedSimpArgs false

/-- An expression without what stands in it: its way and its other fields. -/
abbrev Pg := Int × Pay
/-- Rows of expressions: the first one, what stands in it, those behind it. -/
abbrev Tg := Go.Deep.BT Pg
def toL : Tg → List (Pg × Tg)
  | .nil => []
  | .node _ _ p l r => (p, l) :: toL r
/-- The row's expressions lie from place o on in block b. -/
def FoG (Q : Nat → Prop) (w : World) : Tg → Nat → Nat → Prop
  | .nil, _, _ => True
  | .node _ _ p l r, b, o => (∃ ao n c, Ce w b o p.1 p.2 (.slice ao n c) ∧ (toL l).length = n ∧ n ≤ c ∧ c ≤ 9223372036854775807 ∧ (0 < n → ∃ b' o', ao = some ⟨b', o', none⟩ ∧ Q b' ∧ FoG Q w l b' o')) ∧ FoG Q w r b (o + 7)
theorem FoG.keep {Q : Nat → Prop} {w w' : World} (hk : ∀ k, Q k → k < w.heap.size → w'.heap[k]? = w.heap[k]?) : ∀ {f : Tg} {b o : Nat}, Q b → FoG Q w f b o → FoG Q w' f b o := by
  intro f
  induction f with
  | nil => intro b o _ _; trivial
  | node x y p l r ihl ihr =>
    rintro b o hb ⟨⟨ao, n, c, h1, h2, h3, h4, h5⟩, h6⟩
    refine ⟨⟨ao, n, c, h1.keep (hk b hb h1.lt), h2, h3, h4, fun hn => ?_⟩, ihr hb h6⟩
    obtain ⟨b', o', e, hq, hf⟩ := h5 hn
    exact ⟨b', o', e, hq, ihl hq hf⟩
theorem FoG.lt {Q : Nat → Prop} {w : World} {f : Tg} {b o : Nat} (h : FoG Q w f b o) (hn : 0 < (toL f).length) : b < w.heap.size := by
  cases f with
  | nil => simp [toL] at hn
  | node _ _ q l' r' =>
    obtain ⟨⟨_, _, _, hc, _⟩, _⟩ := h
    exact hc.lt
theorem FoG.mono {Q Q' : Nat → Prop} {w : World} (hk : ∀ k, Q k → k < w.heap.size → Q' k) : ∀ {f : Tg} {b o : Nat}, FoG Q w f b o → FoG Q' w f b o := by
  intro f
  induction f with
  | nil => intro b o _; trivial
  | node x y p l r ihl ihr =>
    rintro b o ⟨⟨ao, n, c, h1, h2, h3, h4, h5⟩, h6⟩
    refine ⟨⟨ao, n, c, h1, h2, h3, h4, fun hn => ?_⟩, ihr h6⟩
    obtain ⟨b', o', e, hq, hf⟩ := h5 hn
    exact ⟨b', o', e, hk b' hq (FoG.lt hf (by omega)), ihl hf⟩
/-- A slice of expressions that reads as the row. -/
def SlF (Q : Nat → Prop) (w : World) (ao : Option Addr) (n c : Nat) (f : Tg) : Prop := (toL f).length = n ∧ n ≤ c ∧ c ≤ 9223372036854775807 ∧ (0 < n → ∃ b o, ao = some ⟨b, o, none⟩ ∧ Q b ∧ FoG Q w f b o)
/-- An expression of any form. -/
def eG : Ek (Pg × Tg) := ⟨7, fun Q w t cs => ∃ a n c, cs = exC t.1.1 t.1.2 (.slice a n c) ∧ SlF Q w a n c t.2,
  fun hk ⟨a, n, c, h1, h2, h3, h4, h5⟩ => ⟨a, n, c, h1, h2, h3, h4, fun hn => by
    obtain ⟨b, o, e, hq, hf⟩ := h5 hn
    exact ⟨b, o, e, hq, FoG.keep hk hq hf⟩⟩,
  fun hk ⟨a, n, c, h1, h2, h3, h4, h5⟩ => ⟨a, n, c, h1, h2, h3, h4, fun hn => by
    obtain ⟨b, o, e, hq, hf⟩ := h5 hn
    exact ⟨b, o, e, hk b hq (FoG.lt hf (by omega)), FoG.mono hk hf⟩⟩⟩
theorem FoG.at {Q : Nat → Prop} {w : World} : ∀ {f : Tg} {b o : Nat}, FoG Q w f b o → ∀ i (h : i < (toL f).length), ∃ cs, eG.E Q w (toL f)[i] cs ∧ cs.length = 7 ∧ ∀ j (hj : j < cs.length), w.cell? ⟨b, o + i * 7 + j, none⟩ = some cs[j] := by
  intro f
  induction f with
  | nil => intro b o _ i h; simp [toL] at h
  | node x y p l r ihl ihr =>
    rintro b o ⟨⟨ao, n, c, h1, h2, h3, h4, h5⟩, h6⟩ i h
    cases i with
    | zero =>
      refine ⟨exC p.1 p.2 (.slice ao n c), ⟨ao, n, c, rfl, h2, h3, h4, h5⟩, rfl, fun j hj => ?_⟩
      obtain ⟨c0, c1, c2, c3, c4, c5, c6⟩ := h1
      have hj' : j < 7 := hj
      rw [show o + 0 * 7 + j = o + j from by omega]
      match j, hj' with
      | 0, _ => exact c0
      | 1, _ => exact c1
      | 2, _ => exact c2
      | 3, _ => exact c3
      | 4, _ => exact c4
      | 5, _ => exact c5
      | 6, _ => exact c6
    | succ i =>
      obtain ⟨cs, g1, g2, g3⟩ := ihr h6 i (by simpa [toL] using h)
      refine ⟨cs, by simpa [toL] using g1, g2, fun j hj => ?_⟩
      rw [show o + (i + 1) * 7 + j = o + 7 + i * 7 + j from by omega]
      exact g3 j hj
theorem SlF.row {Q : Nat → Prop} {w : World} {ao : Option Addr} {n c : Nat} {f : Tg} (h : SlF Q w ao n c f) : RowIs eG Q w (.slice ao n c) (toL f) := by
  obtain ⟨h1, h2, h3, h4⟩ := h
  refine ⟨ao, n, c, rfl, h1, h2, h3, fun hn => ?_⟩
  obtain ⟨b, o, e, hq, hf⟩ := h4 hn
  exact ⟨b, o, e, hq, fun i hi => hf.at i hi⟩
/-- A statement's expression, of any form. -/
def gT : Tr → Tg → Tg
  | .nil, s => s
  | .node _ op p l r, s => .node 0 0 ((op : Int), p) (gT l (gT r .nil)) s
def gP : Tr → Pg × Tg
  | .nil => ((0, 0, 0, ⟨#[]⟩, ⟨#[]⟩, ⟨#[]⟩), .nil)
  | .node _ op p l r => (((op : Int), p), gT l (gT r .nil))
theorem gT_cons {t : Tr} (h : noT t = false) (s : Tg) : toL (gT t s) = gP t :: toL s := by
  cases t with
  | nil => cases h
  | node => rfl
theorem gT_nil {t : Tr} (h : noT t = true) (s : Tg) : gT t s = s := by
  cases t with
  | nil => rfl
  | node => cases h
theorem Ex.fo {Q : Nat → Prop} {w : World} : ∀ {t : Tr} {op1 : Int} {p1 : Pay} {a1 : Option Addr} {n1 c1 : Nat} {b o : Nat} {s : Tg}, Ex Q w t (exV op1 p1 (.slice a1 n1 c1)) → Ce w b o op1 p1 (.slice a1 n1 c1) → FoG Q w s b (o + 7) → FoG Q w (gT t s) b o := by
  intro t
  induction t with
  | nil => intro _ _ _ _ _ _ _ _ h; exact h.elim
  | node x op p l r ihl ihr =>
    rintro op1 p1 a1 n1 c1 b o s ⟨ao, n, c, hv, hn, hc, h⟩ hce hs
    simp only [exV, Value.agg.injEq] at hv
    obtain ⟨k1, k2, k3, k4, k5⟩ := p
    obtain ⟨m1, m2, m3, m4, m5⟩ := p1
    simp only [Array.mk.injEq, List.cons.injEq, Value.int.injEq, Value.string.injEq, Value.slice.injEq, true_and, and_true] at hv
    obtain ⟨rfl, rfl, rfl, rfl, rfl, rfl, rfl, rfl, rfl⟩ := hv
    refine ⟨⟨a1, n1, c1, hce, ?_, hn, hc, fun h0 => ?_⟩, hs⟩
    · rcases h with ⟨h1, h2, h3⟩ | ⟨h1, h2, h3, _⟩ | ⟨h1, h2, h3, _⟩
      · rw [gT_nil h1, gT_nil h2, h3]; rfl
      · rw [gT_cons h1, gT_nil h2, h3]; rfl
      · rw [gT_cons h1, gT_cons h2, h3]; rfl
    · rcases h with ⟨h1, h2, h3⟩ | ⟨h1, h2, h3, b', o', op1', p1', a1', n1', c1', ha, hq, hx, hl⟩ | ⟨h1, h2, h3, b', o', op1', p1', a1', n1', c1', op2, p2, a2, n2, c2, ha, hq, hx, hy, hl, hr⟩
      · omega
      · rw [gT_nil h2]
        exact ⟨b', o', ha, hq, ihl hl hx trivial⟩
      · exact ⟨b', o', ha, hq, ihl hl hx (ihr hr hy trivial)⟩
theorem Ex.g {Q : Nat → Prop} {w : World} {t : Tr} {op : Int} {p : Pay} {a : Option Addr} {n c : Nat} (h : Ex Q w t (exV op p (.slice a n c))) : eG.E Q w (gP t) (exC op p (.slice a n c)) := by
  cases t with
  | nil => exact h.elim
  | node x op' p' l r =>
    obtain ⟨ao, n', c', hv, hn, hc, h⟩ := h
    simp only [exV, Value.agg.injEq] at hv
    obtain ⟨k1, k2, k3, k4, k5⟩ := p
    obtain ⟨m1, m2, m3, m4, m5⟩ := p'
    simp only [Array.mk.injEq, List.cons.injEq, Value.int.injEq, Value.string.injEq, Value.slice.injEq, true_and, and_true] at hv
    obtain ⟨rfl, rfl, rfl, rfl, rfl, rfl, rfl, rfl, rfl⟩ := hv
    refine ⟨a, n, c, rfl, ?_, hn, hc, fun h0 => ?_⟩
    · rcases h with ⟨h1, h2, h3⟩ | ⟨h1, h2, h3, _⟩ | ⟨h1, h2, h3, _⟩
      · show (toL (gT l (gT r .nil))).length = n
        rw [gT_nil h1, gT_nil h2, h3]; rfl
      · show (toL (gT l (gT r .nil))).length = n
        rw [gT_cons h1, gT_nil h2, h3]; rfl
      · show (toL (gT l (gT r .nil))).length = n
        rw [gT_cons h1, gT_cons h2, h3]; rfl
    · rcases h with ⟨h1, h2, h3⟩ | ⟨h1, h2, h3, b', o', op1', p1', a1', n1', c1', ha, hq, hx, hl⟩ | ⟨h1, h2, h3, b', o', op1', p1', a1', n1', c1', op2, p2, a2, n2, c2, ha, hq, hx, hy, hl, hr⟩
      · omega
      · refine ⟨b', o', ha, hq, ?_⟩
        show FoG Q w (gT l (gT r .nil)) b' o'
        rw [gT_nil h2]
        exact Ex.fo hl hx trivial
      · exact ⟨b', o', ha, hq, Ex.fo hl hx (Ex.fo hr hy trivial)⟩
/-- The columns that an expression may name: table, name, kind. -/
abbrev Cl3 := ByteArray × ByteArray × Int
/-- Is it the column of that name? -/
def clmIs (tb nm : ByteArray) (c : Cl3) : Bool := eqS c.2.1 nm && (eqS tb ⟨#[]⟩ || eqS c.1 tb)
def clmK (S : List Cl3) (tb nm : ByteArray) : Int × Int :=
  match S.filter (clmIs tb nm) with
  | [c] => (c.2.2, 0)
  | _ => (0, 10)
/-- What a way asks of its parts: how many, of which kinds, and what it makes of them. -/
def wayA (op : Int) : Option (Int × List Int × Int) :=
  if op = 1 then some (0, [], 0) else if op = 2 then some (0, [], 0) else if op = 3 then some (1, [1], 1) else if op = 4 then some (1, [3], 3)
  else if op = 5 then some (2, [1], 1) else if op = 6 then some (2, [1], 1) else if op = 7 then some (2, [1], 1)
  else if op = 8 then some (2, [1, 2], 3) else if op = 9 then some (2, [1, 2], 3) else if op = 10 then some (2, [1, 2], 3) else if op = 11 then some (2, [1, 2], 3) else if op = 12 then some (2, [1, 2], 3) else if op = 13 then some (2, [1, 2], 3)
  else if op = 14 then some (2, [3], 3) else if op = 15 then some (2, [3], 3) else none
def alikeP (l : List Int) : Bool := l.all fun x => x == l.headD 0
def takesP (f : List Int) (l : List Int) : Bool := alikeP l && l.all fun k => f.contains k
/-- The first error of a list. -/
def erL : List Int → Int
  | [] => 0
  | e :: l => if e = 0 then erL l else e
def kd1 (S : List Cl3) (p : Pg) (ks : List (Int × Int)) : Int × Int :=
  match wayA p.1 with
  | none => (0, 1)
  | some v =>
    if (ks.length : Int) ≠ v.1 then (0, 1)
    else if p.1 = 1 then (p.2.1, 0)
    else if p.1 = 2 then clmK S p.2.2.2.2.1 p.2.2.2.2.2
    else if erL (ks.map (·.2)) ≠ 0 then (0, erL (ks.map (·.2)))
    else if takesP v.2.1 (ks.map (·.1)) then (v.2.2, 0) else (0, 11)
def kds (S : List Cl3) : Tg → List (Int × Int)
  | .nil => []
  | .node _ _ p l r => kd1 S p (kds S l) :: kds S r
def kdT (S : List Cl3) (t : Pg × Tg) : Int × Int := kd1 S t.1 (kds S t.2)
theorem kds_map (S : List Cl3) : ∀ f : Tg, kds S f = (toL f).map (kdT S) := by
  intro f
  induction f with
  | nil => rfl
  | node x y p l r ihl ihr => rw [kds, toL, List.map_cons, ← ihr]; rfl
/-- The first error ahead of place n. -/
def erO (er : Nat → Int) (n : Nat) : Int := erL ((List.range n).map er)
theorem erL_app (l m : List Int) : erL (l ++ m) = if erL l = 0 then erL m else erL l := by
  induction l with
  | nil => rfl
  | cons x l ih =>
    rw [List.cons_append, erL, erL]
    split
    · exact ih
    · rfl
theorem erO_succ (er : Nat → Int) (n : Nat) : erO er (n + 1) = if erO er n = 0 then er n else erO er n := by
  rw [erO, List.range_succ, List.map_append, erL_app]
  by_cases h : erL ((List.range n).map er) = 0
  · rw [if_pos h, if_pos (show erO er n = 0 from h)]
    show (if er n = 0 then 0 else er n) = er n
    split
    · exact Eq.symm (by assumption)
    · rfl
  · rw [if_neg h, if_neg (show ¬ erO er n = 0 from h)]; rfl
theorem erO_stop {er : Nat → Int} {k n : Nat} (hk : k < n) (h0 : erO er k = 0) (he : er k ≠ 0) : erO er n = er k := by
  induction n with
  | zero => omega
  | succ n ih =>
    rw [erO_succ]
    by_cases h : k = n
    · subst h; rw [if_pos h0]
    · rw [ih (by omega), if_neg he]
theorem erO_list {l : List Int} {er : Nat → Int} (h : ∀ i (hi : i < l.length), er i = l[i]) : erO er l.length = erL l := by
  have : (List.range l.length).map er = l := by
    apply List.ext_getElem
    · simp
    · intro i h1 h2
      rw [List.getElem_map, List.getElem_range, h i h2]
  rw [erO, this]

end Go.Proofs.YtnlaaejdianfjaaGreat
