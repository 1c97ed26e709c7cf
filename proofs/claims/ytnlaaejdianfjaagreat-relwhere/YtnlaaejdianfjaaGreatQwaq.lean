import Derived.Test.YtnlaaejdianfjaaGreatQwap
import Derived.Test.YtnlaaejdianfjaaGreatQwao
import Derived.Test.YtnlaaejdianfjaaGreatQwan
namespace Go.Proofs.YtnlaaejdianfjaaGreat
open Go.RowKit
set_option linter.unusedVariables false
set_option linter.unusedSimpArgs false

/-- A row by numbers; rows by numbers. -/
def rowX : List Int → List Nat → List Vt
  | [], _ => []
  | k :: ks, zs => vaX k zs :: rowX ks zs.tail
def rowsX (ks : List Int) : Nat → List Nat → List (List Vt)
  | 0, _ => []
  | n + 1, zs => if zs = [] then [] else rowX ks zs :: rowsX ks n (zs.drop ks.length)
theorem rowX_len : ∀ (ks : List Int) (zs : List Nat), (rowX ks zs).length = ks.length
  | [], _ => rfl
  | k :: ks, zs => by rw [rowX, List.length_cons, rowX_len ks, List.length_cons]
theorem rowX_at : ∀ (ks : List Int) (zs : List Nat) (i : Nat) (h1 : i < (rowX ks zs).length) (h2 : i < ks.length), (rowX ks zs)[i] = vaX ks[i] (zs.drop i)
  | [], _, i, _, h2 => by simp at h2
  | k :: ks, zs, 0, _, _ => rfl
  | k :: ks, zs, i + 1, h1, h2 => by
    have := rowX_at ks zs.tail i (by simpa [rowX] using h1) (by simpa using h2)
    simp only [rowX, List.getElem_cons_succ]
    rw [this]
    congr 1
    cases zs <;> simp
theorem vaX_ok {k : Int} (hk : k = 1 ∨ k = 2) (zs : List Nat) : (vaX k zs).1 = k ∧ VaOK k (vaX k zs).2.1 (vaX k zs).2.2 := by
  unfold vaX
  rcases hk with rfl | rfl
  · rw [if_neg (by decide)]
    refine ⟨rfl, .inr ⟨rfl, rfl, ?_⟩⟩
    have := hdM_lt zs (m := 12) (by decide)
    by_cases h : hdM zs 12 = 11
    · right; rw [if_pos h]
    · left; rw [if_neg h]; dsimp only; omega
  · rw [if_pos rfl]
    refine ⟨rfl, .inl ⟨rfl, rfl, ?_⟩⟩
    have := hdM_lt zs (m := 5) (by decide)
    rcases (show hdM zs 5 = 0 ∨ hdM zs 5 = 1 ∨ hdM zs 5 = 2 ∨ hdM zs 5 = 3 ∨ hdM zs 5 = 4 by omega) with h | h | h | h | h <;> rw [h] <;> simp
theorem rowX_ok {L : List Co} (hk : ∀ c ∈ L, c.2.1 = 1 ∨ c.2.1 = 2) (zs : List Nat) : RwOK L (rowX (L.map fun c => c.2.1) zs) := by
  refine ⟨by rw [rowX_len, List.length_map], fun i h1 h2 => ?_⟩
  rw [rowX_at _ _ i h2 (by simpa using h1)]
  have := vaX_ok (hk L[i] (List.getElem_mem h1)) (zs.drop i)
  simpa using this
theorem rowsX_len (ks : List Int) : ∀ (n : Nat) (zs : List Nat), (rowsX ks n zs).length ≤ n
  | 0, _ => Nat.le_refl _
  | n + 1, zs => by
    rw [rowsX]
    split
    · simp
    · rw [List.length_cons]
      have := rowsX_len ks n (zs.drop ks.length)
      omega
theorem rowsX_nil (ks : List Int) (n : Nat) : rowsX ks n [] = [] := by cases n <;> simp [rowsX]
theorem rowsX_mem {L : List Co} (hk : ∀ c ∈ L, c.2.1 = 1 ∨ c.2.1 = 2) : ∀ (n : Nat) (zs : List Nat), ∀ r ∈ rowsX (L.map fun c => c.2.1) n zs, RwOK L r
  | 0, _, r, h => by simp [rowsX] at h
  | n + 1, zs, r, h => by
    rw [rowsX] at h
    split at h
    · simp at h
    · rw [List.mem_cons] at h
      rcases h with rfl | h
      · exact rowX_ok hk zs
      · exact rowsX_mem hk n _ r h
set_option maxRecDepth 100000 in
set_option maxHeartbeats 4000000 in
theorem rowLX_any {g : Nat} {zs : List Nat} {w : World} (hp : PkX w g zs) (L : List Co) (hL : L.length ≤ 100) (hk12 : ∀ c ∈ L, c.2.1 = 1 ∨ c.2.1 = 2) (nm : ByteArray) {ca : Option Addr} {cn cc : Nat} (xa : Option Addr) (xn xc : Nat) (hc : RowIs eCol (fun b => b ≠ g) w (.slice ca cn cc) L) :
    Calls Tryz.prog 31 #[.pointer (some ⟨g, 0, none⟩), .agg #[.string nm, .slice ca cn cc, .slice xa xn xc]] w fun e w' => ∃ a m d, e = .returned (.slice a m d) ∧ OwnR 44 3 w.heap.size w' (.slice a m d) ((rowX (L.map fun c => c.2.1) zs).map vC) ∧ PkX w' g (zs.drop L.length) ∧ But g w w' := by
  obtain ⟨hn, hnc, hcm⟩ := row_lens hc
  have hgl := hp.lt
  have bT := Bk.new w (.cells #[.string nm, .slice ca cn cc, .slice xa xn xc] 33)
  have hB0 : But g w (w.alloc (.cells #[.string nm, .slice ca cn cc, .slice xa xn xc] 33)) := (But.refl g w).alloc _
  have hp0 := hp.alloc (.cells #[.string nm, .slice ca cn cc, .slice xa xn xc] 33)
  have hR0 : Hid (∀ w', But g w w' → RowIs eCol (fun b => b ≠ g) w' (.slice ca cn cc) L) := hid fun w' hb => hc.keep (by decide) fun b hq hl => hb.block b hl hq
  clear hp hc
  go_enter Tryz.func31, Tryz.ntmps31
  go_upto_region 1 with fail
  have hs0 : w.heap.size ≤ (w.alloc (.cells #[.string nm, .slice ca cn cc, .slice xa xn xc] 33)).heap.size := by simp
  generalize w.alloc (.cells #[.string nm, .slice ca cn cc, .slice xa xn xc] 33) = W at *
  go_wp2
  go_loopw [5, 6] (fun v5 v6 wr => ∃ (k : Nat) (V : List Vt) (a : Option Addr) (m d : Nat), k ≤ L.length ∧ v6 = .int .i64 k ∧ v5 = .slice a m d ∧ V.length = k ∧ Hid (V = (rowX (L.map fun c => c.2.1) zs).take k) ∧ OwnR 44 3 (w.heap.size + 1) wr (.slice a m d) (V.map vC) ∧ PkX wr g (zs.drop k) ∧ But g w wr ∧ Bk wr w.heap.size (.cells #[.string nm, .slice ca cn cc, .slice xa xn xc] 33)) (fun _ i _ => L.length - (intOf i).toNat)
  case atStart => exact ⟨0, [], none, 0, 0, Nat.zero_le _, rfl, rfl, rfl, hid (by simp), OwnR.nil _ _ _ _, by simpa using hp0, hB0, bT⟩
  case round =>
    obtain ⟨k, V, a, m, d, hk, rfl, rfl, hV, HV, ho, hpr, hBr, bTr⟩ := hrel
    have t1 := bTr.cell 1
    simp only [List.getElem?_toArray, List.getElem?_cons_zero, List.getElem?_cons_succ] at t1
    by_cases hlt : k < L.length
    · obtain ⟨_, _, _, e', _, _, _, hx⟩ := hR0.out wr hBr
      cases e'
      obtain ⟨b, o, hca, hq, hi⟩ := hx (by omega)
      rw [hca] at t1
      obtain ⟨cs, hE, h2, h3⟩ := hi k hlt
      obtain ⟨x, hxl⟩ : ∃ x, L[k] = x := ⟨_, rfl⟩
      have hE' : cs = [.string L[k].1, .int .i64 L[k].2.1, .string L[k].2.2] := hE
      subst hE'
      have c1 : wr.cell? ⟨b, o + k * 3 + 1, none⟩ = some (.int .i64 L[k].2.1) := h3 1 (show 1 < 3 by decide)
      have hx12 := hk12 L[k] (List.getElem_mem hlt)
      rw [hxl] at c1 hx12
      have HVl : Hid _ := hid (valueX_any hpr x.2.1 hx12)
      have HXl : Hid _ := hid hxl
      have hkm : (k : Int) < (cn : Int) := by omega
      replace hca : Hid _ := hid hca
      have hk5 : k ≤ 100 := by omega
      clear h2 h3 hi hx hE bT hB0 hp0 hxl
      go_wp2_with fail
      refine Calls.mono HVl.out ?_
      rintro e w4 ⟨rfl, hp4, hb4⟩
      obtain ⟨⟨vk, i, s⟩, hvx⟩ : ∃ v, vaX x.2.1 (zs.drop k) = v := ⟨_, rfl⟩
      rw [hvx]
      have HVX : Hid _ := hid hvx
      clear hvx
      dsimp only [vV] at *
      have ho4 := ho.but hb4 (by omega)
      have hB4 := hBr.trans hb4
      have bT4 : Bk w4 w.heap.size (.cells #[.string nm, .slice ca cn cc, .slice xa xn xc] 33) := ⟨(hb4.block w.heap.size bTr.lt (by omega)).trans bTr.row⟩
      have ho5 := ho4.alloc (.cells #[.int .i64 vk, .int .i64 i, .string s] 44)
      have hB5 := hB4.alloc (.cells #[.int .i64 vk, .int .i64 i, .string s] 44)
      have bT5 := bT4.later (bal (Below.refl _ _) (.cells #[.int .i64 vk, .int .i64 i, .string s] 44))
      have hp5 := hp4.alloc (.cells #[.int .i64 vk, .int .i64 i, .string s] 44)
      have hblk := ho4.blk
      have hsz5 : w.heap.size + 1 ≤ (w4.alloc (.cells #[.int .i64 vk, .int .i64 i, .string s] 44)).heap.size := by have := bT5.lt; omega
      clear HVl ho4 hB4 bT4 hb4 hp4 ho hpr hBr bTr
      go_wp2_with (first | (at_builtin; go_must (refine wpList_appR Tryz.underlying42 Tryz.infoTVal rfl (by decide) (by decide) rfl (.tmp 14) (.tmp 23) rfl _ (V.map vC) w4.heap.size [.int .i64 vk, .int .i64 i, .string s] rfl rfl ho5 rfl (by simp [Value.oneCell']) (new3 w4 _ _ _ _) (by rw [List.length_map]; omega) hsz5 ?_)) | fail)
      intro v' w6 hO6 hg6 hown
      obtain ⟨a2, m2, d2, rfl⟩ := hO6.sl
      have hb7 := below_grows (Below.refl (w.heap.size + 1) _) hsz5 hg6 fun k e => (hblk k e).1
      have hB6 : But g w w6 := ⟨hb7.os.trans hB5.os, hb7.tape.trans hB5.tape, hb7.output.trans hB5.output, Nat.le_trans hB5.size hb7.size, fun k hk hkg => (hb7.block k (by omega)).trans (hB5.block k hk hkg)⟩
      have bT6 : Bk w6 w.heap.size (.cells #[.string nm, .slice ca cn cc, .slice xa xn xc] 33) := ⟨(hb7.block w.heap.size (by omega)).trans bT5.row⟩
      have hp6 := hp5.grown hg6 fun k e => by have := (hblk k e).1; omega
      have HT : Hid _ := hid (And.intro hO6 (And.intro hB6 (And.intro bT6 hp6)))
      clear hO6 hB6 bT6 hp6 hg6 hown ho5 hB5 bT5 hp5 hblk hb7
      go_wp2
      go_roundw
      case rel =>
        refine ⟨k + 1, V ++ [(vk, i, s)], a2, m2, d2, hlt, by go_num, rfl, by rw [List.length_append]; simp [hV], hid ?_, by rw [List.map_append]; exact HT.out.1, by have := HT.out.2.2.2; rwa [List.tail_drop] at this, HT.out.2.1, HT.out.2.2.1⟩
        have hlx : k < (rowX (L.map fun c => c.2.1) zs).length := by rw [rowX_len, List.length_map]; exact hlt
        rw [List.take_succ_eq_append_getElem hlx, ← HV.out, rowX_at _ _ k hlx (by simpa using hlt)]
        simp only [List.getElem_map]
        rw [HXl.out, HVX.out]
      case measure => simp only [intOf]; omega
    · obtain rfl : k = L.length := by omega
      have hge : ¬ (L.length : Int) < (cn : Int) := by omega
      have hgd : decide ((L.length : Int) < (cn : Int)) = false := by simpa using hge
      go_wp2
      go_ret
      have hVr : V = rowX (L.map fun c => c.2.1) zs := by rw [HV.out, List.take_of_length_le (by rw [rowX_len, List.length_map]; omega)]
      subst hVr
      exact ⟨a, m, d, rfl, ⟨ho.1, owns_base ho.2 (by omega)⟩, by rw [← hn]; exact hpr, hBr⟩

end Go.Proofs.YtnlaaejdianfjaaGreat
namespace Go.Proofs.YtnlaaejdianfjaaGreat
open Go.RowKit
set_option linter.unusedVariables false
set_option linter.unusedSimpArgs false

/-- A slice of bytes that are these numbers. -/
def NumX (w : World) (a : Option Addr) (zs : List Nat) : Prop := 0 < zs.length → ∃ b o, a = some ⟨b, o, none⟩ ∧ b < w.heap.size ∧ ∀ i (h : i < zs.length), zs[i] ≤ 255 ∧ w.cell? ⟨b, o + i, none⟩ = some (.int .u8 (zs[i] : Int))
theorem NumX.later {w w' : World} {a : Option Addr} {zs : List Nat} (h : NumX w a zs) (hb : Below w.heap.size w w') : NumX w' a zs := fun hp => by
  obtain ⟨b, o, ha, hl, hz⟩ := h hp
  exact ⟨b, o, ha, by have := hb.size; omega, fun i hi => ⟨(hz i hi).1, cell_later hb (hz i hi).2⟩⟩
theorem NumX.of {w : World} {a : Option Addr} {len cap : Nat} {xs : List Int} (h : Rd .u8 w a len cap xs) (hx : ∀ x ∈ xs, 0 ≤ x ∧ x ≤ 255) : ∃ zs : List Nat, zs.length = len ∧ NumX w a zs := by
  refine ⟨xs.map Int.toNat, by rw [List.length_map, h.len], fun hp => ?_⟩
  rw [List.length_map] at hp
  obtain ⟨b, o, ha, hc⟩ := h.cells (by rw [← h.len]; exact hp)
  have hb : b < w.heap.size := World.block_lt_of_cell? _ _ (hc 0 (by rw [← h.len]; exact hp))
  refine ⟨b, o, ha, hb, fun i hi => ?_⟩
  rw [List.length_map] at hi
  have hm := hx xs[i] (List.getElem_mem hi)
  rw [List.getElem_map]
  refine ⟨by omega, ?_⟩
  have := hc i (by rw [← h.len]; exact hi)
  rw [nth, List.getElem?_eq_getElem hi] at this
  rw [this, Int.toNat_of_nonneg hm.1]
  rfl
set_option maxRecDepth 100000 in
theorem madeX_any {w : World} {a : Option Addr} {len cap : Nat} {zs : List Nat} (h0 : zs.length = len) (h1 : len ≤ cap) (h2 : cap ≤ 9223372036854775807) (h3 : NumX w a zs) :
    Calls Tryz.prog 21 #[.slice a len cap] w fun e w' => e = .returned (.pointer (some ⟨w.heap.size, 0, none⟩)) ∧ PkX w' w.heap.size zs ∧ Below w.heap.size w w' := by
  have hb := bal (Below.refl _ w) (.cells #[.slice a len cap, .int .i64 ((0 : Nat) : Int)] 101)
  have hp : PkX (w.alloc (.cells #[.slice a len cap, .int .i64 ((0 : Nat) : Int)] 101)) w.heap.size zs := ⟨a, len, cap, 0, ⟨heap_alloc_new w _⟩, by omega, h1, h2, fun hp => by
    obtain ⟨b, o, ha, hl, hz⟩ := h3 hp
    exact ⟨b, o, ha, hl, by have := hb.size; omega, fun i hi => ⟨(hz i hi).1, by rw [Nat.zero_add]; exact cell_later hb (hz i hi).2⟩⟩⟩
  have T : Hid _ := hid (And.intro hp hb)
  clear hp hb h3
  go_enter Tryz.func21, Tryz.ntmps21
  go_wp2
  go_ret
  exact ⟨rfl, T.out.1, T.out.2⟩
theorem Tryz.infoTRow : (Tryz.prog.info? 42).map (fun i => (i.zero, i.size, i.bytes)) = some (some (.slice none 0 0), 1, 24) := by kernel_rfl
/-- What a call that tells rows of its own tells. -/
def TeRs (B : Nat) (w' : World) (v : Value) (R : List (List Vt)) : Prop := ∃ css, OwnR 42 1 B w' v css ∧ css.length = R.length ∧ ∀ i (h1 : i < R.length) (h2 : i < css.length), eRow.E (fun b => B ≤ b ∧ some b ≠ v.ownBlock) w' R[i] css[i]
theorem TeRs.row {B : Nat} {w' : World} {v : Value} {R : List (List Vt)} (h : TeRs B w' v R) : RowIs eRow (fun b => B ≤ b) w' v R := by
  obtain ⟨css, ho, hl, hE⟩ := h
  obtain ⟨a, m, d, rfl⟩ := ho.sl
  exact OwnR.rowE (e := eRow) ho hl.symm (fun b hb _ => hb) fun i h1 h2 => eRow.mono (fun b hb _ => hb.1) (hE i h1 h2)
theorem OwnR.lenV {ty k B : Nat} {w : World} {a : Option Addr} {m d : Nat} {css : List (List Value)} (h : OwnR ty k B w (.slice a m d) css) : m = css.length := by
  rcases h.2 with ⟨_, ⟨h1, h2⟩ | ⟨g, cap, cur, h1, _⟩⟩
  · injection h1 with _ h3 _; omega
  · injection h1 with _ h3 _
theorem TeRs.but {B g : Nat} {w w' : World} {v : Value} {R : List (List Vt)} (h : TeRs B w v R) (hb : But g w w') (hg : g < B) : TeRs B w' v R := by
  obtain ⟨css, ho, hl, hE⟩ := h
  exact ⟨css, ho.but hb hg, hl, fun i h1 h2 => eRow.keep (fun b hq hlt => hb.block b hlt (by have := hq.1; omega)) (hE i h1 h2)⟩
theorem TeRs.base {B B' : Nat} {w : World} {v : Value} {R : List (List Vt)} (h : TeRs B w v R) (hB : B' ≤ B) : TeRs B' w v R := by
  obtain ⟨css, ho, hl, hE⟩ := h
  exact ⟨css, ⟨ho.1, owns_base ho.2 hB⟩, hl, fun i h1 h2 => eRow.mono (fun b hq _ => ⟨Nat.le_trans hB hq.1, hq.2⟩) (hE i h1 h2)⟩
set_option maxRecDepth 100000 in
set_option maxHeartbeats 4000000 in
theorem rowsP_any {w : World} {a : Option Addr} {len cap : Nat} {zs : List Nat} (h0 : zs.length = len) (h1 : len ≤ cap) (h2 : cap ≤ 9223372036854775807) (h3 : NumX w a zs) (L : List Co) (hL : L.length ≤ 100) (hk12 : ∀ c ∈ L, c.2.1 = 1 ∨ c.2.1 = 2) (nm : ByteArray) {ca : Option Addr} {cn cc : Nat} (xa : Option Addr) (xn xc : Nat) (hc : RowIs eCol (fun _ => True) w (.slice ca cn cc) L) (N : Nat) (hN : N ≤ 100) :
    Calls Tryz.prog 11 #[.slice a len cap, .agg #[.string nm, .slice ca cn cc, .slice xa xn xc], .int .i64 (N : Int)] w fun e w' => ∃ v, e = .returned v ∧ TeRs w.heap.size w' v (rowsX (L.map fun c => c.2.1) N zs) ∧ Below w.heap.size w w' := by
  have hw := bal (Below.refl w.heap.size w) (.cells #[.string nm, .slice ca cn cc, .slice xa xn xc] 33)
  have bT := Bk.new w (.cells #[.string nm, .slice ca cn cc, .slice xa xn xc] 33)
  have HM : Hid _ := hid (madeX_any h0 h1 h2 (h3.later hw))
  have hcl : RowIs eCol (fun b => b < w.heap.size) w (.slice ca cn cc) L := hc.mono (by decide) fun _ _ hl => hl
  have hgs : (w.alloc (.cells #[.string nm, .slice ca cn cc, .slice xa xn xc] 33)).heap.size = w.heap.size + 1 := by simp
  have hww := h0
  clear hc h3
  go_enter Tryz.func11, Tryz.ntmps11
  go_upto_region 1 with fail
  generalize w.alloc (.cells #[.string nm, .slice ca cn cc, .slice xa xn xc] 33) = W at *
  obtain ⟨g, hg⟩ : ∃ g, W.heap.size = g := ⟨_, rfl⟩
  rw [hg] at HM
  go_wp2_with fail
  (try rw [hg])
  refine Calls.mono HM.out ?_
  rintro e w2 ⟨rfl, hp2, hb2⟩
  have hgw : w.heap.size < g := by omega
  have hw2 := Below.on hw (hg ▸ hb2)
  have bT2 : Bk w2 w.heap.size (.cells #[.string nm, .slice ca cn cc, .slice xa xn xc] 33) := bT.later (hg ▸ hb2)
  have hg2 : g < w2.heap.size := hp2.lt
  replace hg : Hid _ := hid hg
  clear HM hb2 bT hw
  have HCo : Hid (∀ w', But g w2 w' → RowIs eCol (fun b => b ≠ g) w' (.slice ca cn cc) L) := hid fun w' hb => (hcl.keep (by decide) fun b hq hl => ((hb.block b (by have := hw2.size; omega) (by omega)).trans (hw2.block b hq))).mono (by decide) fun b hq _ => by omega
  go_wp2
  go_loopw [8] (fun v8 wr => ∃ (R : List (List Vt)) (ys : List Nat) (va : Option Addr) (vm vd : Nat), v8 = .slice va vm vd ∧ R.length ≤ N ∧ Hid (rowsX (L.map fun c => c.2.1) N zs = R ++ rowsX (L.map fun c => c.2.1) (N - R.length) ys) ∧ Hid (TeRs w2.heap.size wr (.slice va vm vd) R) ∧ PkX wr g ys ∧ But g w2 wr ∧ Bk wr w.heap.size (.cells #[.string nm, .slice ca cn cc, .slice xa xn xc] 33)) (fun v _ => N - (match v with | .slice _ n _ => n | _ => 0))
  case atStart => exact ⟨[], zs, none, 0, 0, rfl, Nat.zero_le _, hid (by simp), hid ⟨[], OwnR.nil _ _ _ _, rfl, fun i h1 => by simp at h1⟩, hp2, But.refl _ _, bT2⟩
  case round =>
    obtain ⟨R, ys, va, vm, vd, rfl, hRN, HRx, HTe, hpr, hBr, bTr⟩ := hrel
    have hvm : R.length = vm := by
      obtain ⟨css, ho, hl, -⟩ := HTe.out
      rw [← hl]
      exact (ho.lenV).symm
    have HOv : Hid _ := hid (overX_any hpr)
    have HFin : Hid (∀ w' : World, But g w2 w' → Below w.heap.size w w') := hid fun w' hb => hb.below hw2 (by omega) hw2.size
    by_cases hy : ys = []
    · rw [show decide (ys = []) = true from by simpa using hy] at HOv
      go_wp2_with fail
      refine Calls.mono HOv.out ?_
      rintro e w3 ⟨rfl, hp3, hb3⟩
      have hB3 := hBr.trans hb3
      have hR : rowsX (L.map fun c => c.2.1) N zs = R := by rw [HRx.out, hy, rowsX_nil, List.append_nil]
      have HT3 : Hid (TeRs w2.heap.size w3 (.slice va vm vd) R) := hid (HTe.out.but hb3 hg2)
      have HR : Hid _ := hid hR
      clear HOv HRx HTe hR
      go_wp2
      go_ret
      exact ⟨_, rfl, by rw [HR.out]; exact HT3.out.base hw2.size, HFin.out _ hB3⟩
    · rw [show decide (ys = []) = false from by simpa using hy] at HOv
      go_wp2_with fail
      refine Calls.mono HOv.out ?_
      rintro e w3 ⟨rfl, hp3, hb3⟩
      have hB3 := hBr.trans hb3
      have HT3 : Hid (TeRs w2.heap.size w3 (.slice va vm vd) R) := hid (HTe.out.but hb3 hg2)
      have bT3 : Bk w3 w.heap.size (.cells #[.string nm, .slice ca cn cc, .slice xa xn xc] 33) := ⟨(hb3.block w.heap.size bTr.lt (by omega)).trans bTr.row⟩
      clear HOv HTe hb3
      by_cases hlt : R.length < N
      · have t0 := bT3.cell 0
        have t1 := bT3.cell 1
        have t2 := bT3.cell 2
        simp only [List.getElem?_toArray, List.getElem?_cons_zero, List.getElem?_cons_succ] at t0 t1 t2
        have HRw : Hid _ := hid (rowLX_any hp3 L hL hk12 nm xa xn xc (HCo.out w3 hB3))
        have hlI : (vm : Int) < (N : Int) := by omega
        have hs3 : w2.heap.size ≤ w3.heap.size := hB3.size
        obtain ⟨rw0, hrw⟩ : ∃ r, rowX (L.map fun c => c.2.1) ys = r := ⟨_, rfl⟩
        have HNx : Hid (rowsX (L.map fun c => c.2.1) N zs = (R ++ [rw0]) ++ rowsX (L.map fun c => c.2.1) (N - (R ++ [rw0]).length) (ys.drop L.length)) := hid (by
          rw [HRx.out, show N - R.length = (N - (R ++ [rw0]).length) + 1 from by rw [List.length_append]; simp; omega, rowsX, if_neg hy, hrw, List.length_map]
          simp)
        rw [hrw] at HRw
        clear hrw HRx
        go_wp2_with fail
        refine Calls.mono HRw.out ?_
        rintro e w4 ⟨ra, rm, rd, rfl, hor, hp4, hb4⟩
        obtain ⟨css, ho, hcl, hE⟩ := HT3.out
        have hblk3 := ho.blk
        have ho4 := ho.but hb4 hg2
        have ho5 := ho4.alloc (.cells #[.slice ra rm rd] 42)
        have hB4 := hB3.trans hb4
        have hB5 := hB4.alloc (.cells #[.slice ra rm rd] 42)
        have hblk := ho4.blk
        have bT5 : Bk (w4.alloc (.cells #[.slice ra rm rd] 42)) w.heap.size (.cells #[.string nm, .slice ca cn cc, .slice xa xn xc] 33) := (⟨(hb4.block w.heap.size bT3.lt (by omega)).trans bT3.row⟩ : Bk w4 w.heap.size (.cells #[.string nm, .slice ca cn cc, .slice xa xn xc] 33)).later (bal (Below.refl _ _) _)
        have hp5 := hp4.alloc (.cells #[.slice ra rm rd] 42)
        have hsz5 : w2.heap.size ≤ (w4.alloc (.cells #[.slice ra rm rd] 42)).heap.size := hB5.size
        have hrr : RowIs eVal (fun b => w3.heap.size ≤ b) w4 (.slice ra rm rd) rw0 := OwnR.rowE (e := eVal) hor (by simp) (fun b hb _ => hb) fun i h1 h2 => by
          show _ = _
          simp
        have hEn : eRow.E (fun b => w2.heap.size ≤ b ∧ some b ≠ (Value.slice va vm vd).ownBlock) (w4.alloc (.cells #[.slice ra rm rd] 42)) rw0 [.slice ra rm rd] := ⟨ra, rm, rd, rfl, (hrr.keep (by decide) fun b _ hl => (bal (Below.refl _ _) (.cells #[.slice ra rm rd] 42)).block b hl).mono (by decide) fun b hq _ => ⟨Nat.le_trans hs3 hq, fun hbk => by have := (hblk3 b hbk.symm).2; have hq' : w3.heap.size ≤ b := hq; omega⟩⟩
        have hEo : ∀ i (h1 : i < R.length) (h2 : i < css.length), eRow.E (fun b => w2.heap.size ≤ b ∧ some b ≠ (Value.slice va vm vd).ownBlock) (w4.alloc (.cells #[.slice ra rm rd] 42)) R[i] css[i] := fun i h1 h2 => eRow.keep (fun b _ hl => (bal (Below.refl _ _) (.cells #[.slice ra rm rd] 42)).block b hl) (eRow.keep (fun b hq hl => hb4.block b hl (by have := hq.1; omega)) (hE i h1 h2))
        have HEn : Hid _ := hid hEn
        have HEo : Hid _ := hid hEo
        clear HRw HT3 ho ho4 hE hEn hEo hrr hor hb4 hB4 hp4 t0 t1 t2 bT3
        go_wp2_with (first | (at_builtin; go_must (refine wpList_appR Tryz.underlying36 Tryz.infoTRow rfl (by decide) (by decide) rfl (.tmp 20) (.tmp 24) rfl _ css w4.heap.size [.slice ra rm rd] rfl rfl ho5 rfl (by simp [Value.oneCell']) (newV1 w4 _ _) (by omega) hsz5 ?_)) | fail)
        intro v' w6 hO6 hg6 hown
        obtain ⟨a6, m6, d6, rfl⟩ := hO6.sl
        have hb7 := below_grows (Below.refl w2.heap.size _) hsz5 hg6 fun k e => (hblk k e).1
        have hB6 : But g w2 w6 := ⟨hb7.os.trans hB5.os, hb7.tape.trans hB5.tape, hb7.output.trans hB5.output, Nat.le_trans hB5.size hb7.size, fun k hk hkg => (hb7.block k hk).trans (hB5.block k hk hkg)⟩
        have bT6 : Bk w6 w.heap.size (.cells #[.string nm, .slice ca cn cc, .slice xa xn xc] 33) := ⟨(hb7.block w.heap.size (by have := hw2.size; omega)).trans bT5.row⟩
        have hp6 := hp5.grown hg6 fun k e => by have := (hblk k e).1; omega
        have hTe6 : TeRs w2.heap.size w6 (.slice a6 m6 d6) (R ++ [rw0]) := ⟨css ++ [[.slice ra rm rd]], hO6, by simp [hcl], fun i h1 h2 => by
          by_cases hi : i < css.length
          · rw [List.getElem_append_left hi, List.getElem_append_left (by omega)]
            exact eRow.grow (HEo.out i (by omega) hi) hg6 (by rw [World.size_alloc]; exact hown)
          · have hic : i = css.length := by rw [List.length_append] at h2; simp at h2; omega
            have hir : i = R.length := by omega
            rw [List.getElem_append_right (by omega), List.getElem_append_right (by omega)]
            simp only [hic, Nat.sub_self, List.getElem_cons_zero, hcl]
            exact eRow.grow HEn.out hg6 (by rw [World.size_alloc]; exact hown)⟩
        have hm6 : m6 = R.length + 1 := by rw [hO6.lenV]; simp [hcl]
        have HT6 : Hid _ := hid (And.intro hTe6 (And.intro hB6 (And.intro bT6 hp6)))
        clear hO6 hg6 hown hB5 ho5 hblk hblk3 HEn HEo hTe6 hB6 bT6 hp6 hp5 bT5 hb7 hB3 hp3 hBr hpr bTr
        go_wp2
        go_roundw
        case rel => exact ⟨R ++ [rw0], ys.drop L.length, a6, m6, d6, rfl, by rw [List.length_append]; simp; omega, HNx, hid HT6.out.1, HT6.out.2.2.2, HT6.out.2.1, HT6.out.2.2.1⟩
        case measure => dsimp only; omega
      · have hR : rowsX (L.map fun c => c.2.1) N zs = R := by rw [HRx.out, show N - R.length = 0 from by omega]; simp [rowsX]
        have HR : Hid _ := hid hR
        have hge : ¬ (vm : Int) < (N : Int) := by omega
        have hgd : decide ((vm : Int) < (N : Int)) = false := by simpa using hge
        clear HRx hR
        go_wp2
        go_ret
        exact ⟨_, rfl, by rw [HR.out]; exact HT3.out.base hw2.size, HFin.out _ hB3⟩

end Go.Proofs.YtnlaaejdianfjaaGreat
namespace Go.Proofs.YtnlaaejdianfjaaGreat
open Go.RowKit
set_option linter.unusedVariables false
set_option linter.unusedSimpArgs false

/-- What the document's Holds tells. -/
def hoR (C : List It) (V : List Vt) (l : List (Pg × Tg)) : Bool × Int := match l with
  | [] => (true, 0)
  | x :: _ => (decide ((rfT C V x).2 = 0) && decide ((rfT C V x).1.2.1 = 1), (rfT C V x).2)
set_option maxRecDepth 100000 in
set_option maxHeartbeats 4000000 in
theorem refHolds_any {C : List It} {V : List Vt} (hlen : C.length ≤ 500) (hCV : C.length = V.length) (hVg : ∀ v ∈ V, Gd v) (l : List (Pg × Tg)) (hl1 : l.length ≤ 1) (hwf : ∀ x ∈ l, wfT x) {Q : Nat → Prop} {w : World} {a : Option Addr} {n c : Nat} {a2 : Option Addr} {n2 c2 : Nat} (hC : RowIs eItem (fun _ => True) w (.slice a n c) C) (hV : RowIs eVal (fun _ => True) w (.slice a2 n2 c2) V) {ao : Option Addr} {m d : Nat} (h : RowIs eG Q w (.slice ao m d) l) :
    Calls Tryz.prog 23 #[.slice a n c, .slice a2 n2 c2, .slice ao m d] w fun en w' => en = .returned (.tuple #[.bool (hoR C V l).1, .int .i64 (hoR C V l).2]) ∧ Below w.heap.size w w' := by
  obtain ⟨k1, k2, k3⟩ := row_lens h
  match l, hl1 with
  | [], _ =>
    obtain rfl : m = 0 := by simpa using k1.symm
    clear hC hV h
    go_enter Tryz.func23, Tryz.ntmps23
    go_wp2
    exact bodyPost_ret (v := .tuple #[.bool true, .int .i64 0]) (by simp [results, Tryz.results23]) rfl ⟨rfl, Below.refl _ _⟩
  | [X], _ =>
    obtain rfl : m = 1 := by simpa using k1.symm
    obtain ⟨b, o, ea, en, ec, rfl, hE, u0, u1, u2, u3, u4, u5, u6⟩ := eG_at h (k := 0) (by simp)
    simp only [List.getElem_cons_zero, Nat.zero_mul, Nat.add_zero] at hE u0 u1 u2 u3 u4 u5 u6
    have HX : Hid _ := hid (rv_any hlen hCV hVg X (hwf X (by simp)) _ w _ a n c a2 n2 c2 hC hV hE)
    show Calls Tryz.prog 23 _ w fun en w' => en = .returned (.tuple #[.bool (decide ((rfT C V X).2 = 0) && decide ((rfT C V X).1.2.1 = 1)), .int .i64 (rfT C V X).2]) ∧ _
    clear hC hV h hE hwf hVg hCV hlen
    generalize rfT C V X = R at *
    obtain ⟨⟨q0, q1, q2, q3, q4, q5⟩, qf⟩ := X
    dsimp only at *
    go_enter Tryz.func23, Tryz.ntmps23
    go_wp2_with fail
    refine Calls.mono HX.out ?_
    rintro e w3 ⟨rfl, hb3⟩
    have hb4 := bal hb3 (.cells #[.int .i64 R.1.1, .int .i64 R.1.2.1, .string R.1.2.2] 44)
    have bA := Bk.new w3 (.cells #[.int .i64 R.1.1, .int .i64 R.1.2.1, .string R.1.2.2] 44)
    clear HX u0 u1 u2 u3 u4 u5 u6
    go_upto_region 4 with fail
    generalize w3.alloc (.cells #[.int .i64 R.1.1, .int .i64 R.1.2.1, .string R.1.2.2] 44) = Z at *
    have a1 := bA.cell 1
    simp only [List.getElem?_toArray, List.getElem?_cons_zero, List.getElem?_cons_succ] at a1
    obtain ⟨⟨R0, R1, R2⟩, RE⟩ := R
    dsimp only at *
    obtain ⟨DD, hD⟩ : ∃ DD, decide (R1 = 1) = DD := ⟨_, rfl⟩
    have hD2 : (R1 == 1) = DD := by rw [← hD]; rfl
    clear bA
    by_cases h0 : RE = 0
    · subst h0
      go_wp2
      exact bodyPost_ret (v := .tuple #[.bool DD, .int .i64 0]) (by simp [results, Tryz.results23]) rfl ⟨by simp [hD], hb4⟩
    · have g0 : decide (RE = 0) = false := by simpa using h0
      have g1 : (RE == 0) = false := by simpa using h0
      go_wp2
      exact bodyPost_ret (v := .tuple #[.bool false, .int .i64 RE]) (by simp [results, Tryz.results23]) rfl ⟨by simp [h0], hb4⟩

end Go.Proofs.YtnlaaejdianfjaaGreat
namespace Go.Proofs.YtnlaaejdianfjaaGreat
open Go.ChangeShapes Go.WideShapes Go.ChangeAt Go.RowKit
set_option linter.unusedVariables false
set_option linter.unusedSimpArgs false

end Go.Proofs.YtnlaaejdianfjaaGreat
namespace Go.Proofs.YtnlaaejdianfjaaGreat
open Go.RowKit
set_option linter.unusedVariables false
set_option linter.unusedSimpArgs false

/-- Where a row stands, from behind: ahead of the first (from behind) that it may stand behind. -/
def plcP (st : List Vt → Bool) (out : List (List Vt)) : Nat → Nat
  | 0 => 0
  | k + 1 => if st (out.getD k []) then k + 1 else plcP st out k
/-- May x stand behind y? -/
def behP (bn : Nat) (ds : Bool) (x y : List Vt) : Bool := if ds then decide (0 ≤ cmpVt (y.getD bn vZ) (x.getD bn vZ)) else decide (cmpVt (y.getD bn vZ) (x.getD bn vZ) ≤ 0)
/-- Has each row the by-th? -/
def wholeP (by_ : Int) (L : List (List Vt)) : Bool := decide (0 ≤ by_) && L.all fun r => decide (by_ < (r.length : Int))
def insP (bn : Nat) (ds : Bool) (out : List (List Vt)) (x : List Vt) : List (List Vt) := out.take (plcP (behP bn ds x) out out.length) ++ x :: out.drop (plcP (behP bn ds x) out out.length)
/-- Rows sorted. -/
def srtP (by_ : Int) (ds : Bool) (L : List (List Vt)) : List (List Vt) := if wholeP by_ L then L.foldl (insP by_.toNat ds) [] else L
end Go.Proofs.YtnlaaejdianfjaaGreat
namespace Go.Proofs.YtnlaaejdianfjaaGreat
open Go.RowKit
set_option linter.unusedVariables false
set_option linter.unusedSimpArgs false

/-- How two rows stand to each other. -/
def cZ (bn : Nat) (ds : Bool) (x y : List Vt) : Int := if ds then cmpVt (y.getD bn vZ) (x.getD bn vZ) else cmpVt (x.getD bn vZ) (y.getD bn vZ)
theorem cZ_beh (bn : Nat) (ds : Bool) (x y : List Vt) : behP bn ds x y = !decide (cZ bn ds x y < 0) := by
  have h := cmpV_neg (x.getD bn vZ).1 (x.getD bn vZ).2.1 (nums (x.getD bn vZ).2.2) (y.getD bn vZ).1 (y.getD bn vZ).2.1 (nums (y.getD bn vZ).2.2)
  have h2 : cmpVt (y.getD bn vZ) (x.getD bn vZ) = -cmpVt (x.getD bn vZ) (y.getD bn vZ) := h
  unfold behP cZ
  cases ds
  · rw [if_neg (by simp), if_neg (by simp), h2, ← decide_not]
    apply decide_eq_decide.2; omega
  · rw [if_pos rfl, if_pos rfl, ← decide_not]
    apply decide_eq_decide.2; omega
/-- A function value that holds two values against each other. -/
def CmpV (w : World) (v : Value) (cf : Vt → Vt → Int) : Prop := ∃ N caps, v = .func (.func N) #[] caps ∧ (∀ args w', (callFunc N args).run Tryz.prog w' = .ok (.enter N args) w') ∧
  ∀ (x y : Vt) (w' : World), Below w.heap.size w w' → Calls Tryz.prog N (#[vV x, vV y] ++ caps) w' fun e w'' => e = .returned (.int .i64 (cf x y)) ∧ Below w'.heap.size w' w''
theorem CmpV.later {w w' : World} {v : Value} {cf : Vt → Vt → Int} (h : CmpV w v cf) (hb : Below w.heap.size w w') : CmpV w' v cf := by
  obtain ⟨N, caps, h1, h2, h3⟩ := h
  exact ⟨N, caps, h1, h2, fun x y w2 hb2 => h3 x y w2 (Below.on hb hb2)⟩
set_option maxRecDepth 100000 in
theorem cmpV_plain (w : World) : CmpV w (.func (.func 78) #[] #[]) cmpVt :=
  ⟨_, _, rfl, fun args w' => by rfl, fun x y w' _ => compare_any x.1 x.2.1 x.2.2 y.1 y.2.1 y.2.2 w'⟩
set_option maxRecDepth 100000 in
set_option maxHeartbeats 2000000 in
theorem falling1_any {w : World} {v : Value} {cf : Vt → Vt → Int} (hv : CmpV w v cf) {b : Nat} (hb : w.cell? ⟨b, 0, none⟩ = some v) (x y : Vt) :
    Calls Tryz.prog 113 #[vV x, vV y, .pointer (some ⟨b, 0, none⟩)] w fun e w' => e = .returned (.int .i64 (cf y x)) ∧ Below w.heap.size w w' := by
  obtain ⟨x0, x1, x2⟩ := x
  obtain ⟨y0, y1, y2⟩ := y
  have hw := bal (bal (Below.refl w.heap.size w) (.cells #[.int .i64 x0, .int .i64 x1, .string x2] 44)) (.cells #[.int .i64 y0, .int .i64 y1, .string y2] 44)
  have b1 := (Bk.new w (.cells #[.int .i64 x0, .int .i64 x1, .string x2] 44)).later (bal (Below.refl _ _) (.cells #[.int .i64 y0, .int .i64 y1, .string y2] 44))
  have b2 := Bk.new (w.alloc (.cells #[.int .i64 x0, .int .i64 x1, .string x2] 44)) (.cells #[.int .i64 y0, .int .i64 y1, .string y2] 44)
  rw [World.size_alloc] at b2
  replace hv := hv.later hw
  replace hb := cell_later hw hb
  obtain ⟨N, caps, rfl, hcf, hN⟩ := hv
  have HN : Hid (∀ w', Below _ _ w' → _) := hid fun w' h => hN (y0, y1, y2) (x0, x1, x2) w' h
  generalize cf (y0, y1, y2) (x0, x1, x2) = R at *
  clear hN
  go_enter Tryz.func113, Tryz.ntmps113
  go_upto_region 1 with fail
  generalize (w.alloc (.cells #[.int .i64 x0, .int .i64 x1, .string x2] 44)).alloc (.cells #[.int .i64 y0, .int .i64 y1, .string y2] 44) = W at *
  have d0 := b1.cell 0
  have d1 := b1.cell 1
  have d2 := b1.cell 2
  have e0 := b2.cell 0
  have e1 := b2.cell 1
  have e2 := b2.cell 2
  simp only [List.getElem?_toArray, List.getElem?_cons_zero, List.getElem?_cons_succ] at d0 d1 d2 e0 e1 e2
  clear b1 b2
  have HN2 := HN.out W (Below.refl _ _)
  replace HN2 : Hid _ := hid HN2
  clear HN
  go_wp2_with fail
  refine Calls.mono HN2.out ?_
  rintro e w1 ⟨rfl, hb1⟩
  have hB := Below.on hw hb1
  clear HN2
  go_wp2
  go_ret
  exact ⟨rfl, hB⟩
set_option maxRecDepth 100000 in
theorem cmpV_fall {w : World} {v : Value} {cf : Vt → Vt → Int} (hv : CmpV w v cf) {b : Nat} (hb : w.cell? ⟨b, 0, none⟩ = some v) : CmpV w (.func (.func 113) #[] #[.pointer (some ⟨b, 0, none⟩)]) (fun x y => cf y x) :=
  ⟨_, _, rfl, fun args w' => by rfl, fun x y w' hb2 => falling1_any (hv.later hb2) (cell_later hb2 hb) x y⟩
set_option maxRecDepth 100000 in
set_option maxHeartbeats 2000000 in
theorem falling_any {w : World} {v : Value} {cf : Vt → Vt → Int} (hv : CmpV w v cf) :
    Calls Tryz.prog 79 #[v] w fun e w' => ∃ u, e = .returned u ∧ CmpV w' u (fun x y => cf y x) ∧ Below w.heap.size w w' := by
  have hc := cell_new w #[v] 57 (0, 0) 0
  simp only [List.getElem?_toArray, List.getElem?_cons_zero] at hc
  have hw := bal (Below.refl w.heap.size w) (.cells #[v] 57)
  have HV : Hid _ := hid (cmpV_fall (hv.later hw) hc)
  obtain ⟨N, caps, rfl, hcf, hN⟩ := hv
  clear hN
  have hmf : ∀ (fn : Fn) (first cap : Array Value) (w : World), (Instr.makeFunc fn first cap).run Tryz.prog w = .ok (.func fn first cap) w := fun _ _ _ _ => rfl
  go_enter Tryz.func79, Tryz.ntmps79
  go_wp2
  go_ret
  exact ⟨_, rfl, HV.out, hw⟩
/-- The key of a row. -/
def KeyR (w : World) (v : Value) (bn : Nat) : Prop := ∃ N caps, v = .func (.func N) #[] caps ∧ (∀ args w', (callFunc N args).run Tryz.prog w' = .ok (.enter N args) w') ∧
  ∀ (x : List Vt) (a : Option Addr) (n c : Nat) (Q : Nat → Prop) (w' : World), Below w.heap.size w w' → bn < x.length → RowIs eVal Q w' (.slice a n c) x → Calls Tryz.prog N (#[.slice a n c] ++ caps) w' fun e w'' => e = .returned (vV (x.getD bn vZ)) ∧ Below w'.heap.size w' w''
theorem KeyR.later {w w' : World} {v : Value} {bn : Nat} (h : KeyR w v bn) (hb : Below w.heap.size w w') : KeyR w' v bn := by
  obtain ⟨N, caps, h1, h2, h3⟩ := h
  exact ⟨N, caps, h1, h2, fun x a n c Q w2 hb2 => h3 x a n c Q w2 (Below.on hb hb2)⟩
set_option maxRecDepth 100000 in
set_option maxHeartbeats 2000000 in
theorem key_any {w : World} {b bn : Nat} (hb : w.cell? ⟨b, 0, none⟩ = some (.int .i64 (bn : Int))) {x : List Vt} (hx : bn < x.length) {a : Option Addr} {n c : Nat} {Q : Nat → Prop} (h : RowIs eVal Q w (.slice a n c) x) :
    Calls Tryz.prog 81 #[.slice a n c, .pointer (some ⟨b, 0, none⟩)] w fun e w' => e = .returned (vV (x.getD bn vZ)) ∧ Below w.heap.size w w' := by
  obtain ⟨l1, l2, l3⟩ := row_lens h
  obtain ⟨ba, o, rfl, -, x0, x1, x2⟩ := val1 h hx
  have hg : x.getD bn vZ = x[bn] := by rw [List.getD_eq_getElem?_getD, List.getElem?_eq_getElem hx]; rfl
  rw [hg]
  obtain ⟨v, hv⟩ : ∃ v, x[bn] = v := ⟨_, rfl⟩
  rw [hv] at x0 x1 x2 ⊢
  obtain ⟨v0, v1, v2⟩ := v
  have hw := bal (Below.refl w.heap.size w) zV
  have hz := Bv.new w
  have hbn : (bn : Int) < (n : Int) := by omega
  replace x0 := cell_later hw x0
  replace x1 := cell_later hw x1
  replace x2 := cell_later hw x2
  replace hb := cell_later hw hb
  clear hv hg h
  go_enter Tryz.func81, Tryz.ntmps81
  go_upto_region 1 with fail
  generalize w.alloc zV = W at *
  obtain ⟨d0, d1, d2⟩ := hz.cells
  obtain ⟨f0, f1, f2⟩ := hz.free
  have hl := hz.lt
  clear hz
  go_wp2
  exact bodyPost_ret (v := vV (v0, v1, v2)) (by simp [results, Tryz.results81, go_sem, d0, d1, d2]) rfl ⟨rfl, below3 hw (Nat.le_refl _) _ _ _⟩
set_option maxRecDepth 100000 in
theorem keyR_of {w : World} {b bn : Nat} (hb : w.cell? ⟨b, 0, none⟩ = some (.int .i64 (bn : Int))) : KeyR w (.func (.func 81) #[] #[.pointer (some ⟨b, 0, none⟩)]) bn :=
  ⟨_, _, rfl, fun args w' => by rfl, fun x a n c Q w' hb2 hx h => key_any (cell_later hb2 hb) hx h⟩
/-- A function value that holds two rows against each other. -/
def CmpR (w : World) (v : Value) (bn : Nat) (ds : Bool) : Prop := ∃ N caps, v = .func (.func N) #[] caps ∧ (∀ args w', (callFunc N args).run Tryz.prog w' = .ok (.enter N args) w') ∧
  ∀ (x y : List Vt) (a : Option Addr) (n c : Nat) (a2 : Option Addr) (n2 c2 : Nat) (Q : Nat → Prop) (w' : World), Below w.heap.size w w' → bn < x.length → bn < y.length → RowIs eVal Q w' (.slice a n c) x → RowIs eVal Q w' (.slice a2 n2 c2) y → Calls Tryz.prog N (#[.slice a n c, .slice a2 n2 c2] ++ caps) w' fun e w'' => e = .returned (.int .i64 (cZ bn ds x y)) ∧ Below w'.heap.size w' w''
set_option maxRecDepth 100000 in
set_option maxHeartbeats 4000000 in
theorem sorted1_any {w : World} {bo bk bn : Nat} {ds : Bool} {vo vk : Value} (ho : CmpV w vo (fun x y => if ds then cmpVt y x else cmpVt x y)) (hk : KeyR w vk bn) (co : w.cell? ⟨bo, 0, none⟩ = some vo) (ck : w.cell? ⟨bk, 0, none⟩ = some vk)
    {x y : List Vt} (hx : bn < x.length) (hy : bn < y.length) {a : Option Addr} {n c : Nat} {a2 : Option Addr} {n2 c2 : Nat} {Q : Nat → Prop} (h1 : RowIs eVal Q w (.slice a n c) x) (h2 : RowIs eVal Q w (.slice a2 n2 c2) y) :
    Calls Tryz.prog 116 #[.slice a n c, .slice a2 n2 c2, .pointer (some ⟨bo, 0, none⟩), .pointer (some ⟨bk, 0, none⟩)] w fun e w' => e = .returned (.int .i64 (cZ bn ds x y)) ∧ Below w.heap.size w w' := by
  obtain ⟨N, caps, rfl, hcf, hN⟩ := ho
  obtain ⟨M, caps2, rfl, hcf2, hM⟩ := hk
  have HX : Hid (∀ w', Below w.heap.size w w' → _) := hid fun w' hb => hM x a n c (fun _ => True) w' hb hx ((h1.keep (by decide) fun b _ hl => hb.block b hl).mono (by decide) fun _ _ _ => trivial)
  have HY : Hid (∀ w', Below w.heap.size w w' → _) := hid fun w' hb => hM y a2 n2 c2 (fun _ => True) w' hb hy ((h2.keep (by decide) fun b _ hl => hb.block b hl).mono (by decide) fun _ _ _ => trivial)
  have HC : Hid (∀ w', Below w.heap.size w w' → _) := hid fun w' hb => hN (x.getD bn vZ) (y.getD bn vZ) w' hb
  have HE : (if ds then cmpVt (y.getD bn vZ) (x.getD bn vZ) else cmpVt (x.getD bn vZ) (y.getD bn vZ)) = cZ bn ds x y := rfl
  simp only [HE] at HC
  generalize cZ bn ds x y = R at *
  generalize x.getD bn vZ = kx at *
  generalize y.getD bn vZ = ky at *
  obtain ⟨kx0, kx1, kx2⟩ := kx
  obtain ⟨ky0, ky1, ky2⟩ := ky
  have hC : Below w.heap.size w w.drew := (Below.refl _ w).drew
  clear hN hM h1 h2 HE hx hy
  go_enter Tryz.func116, Tryz.ntmps116
  go_upto_region 1 with fail
  go_region_held (fun w' => w'.cell? ⟨bo, 0, none⟩ = some (.func (.func N) #[] caps) ∧ w'.cell? ⟨bk, 0, none⟩ = some (.func (.func M) #[] caps2)) (exact ⟨cell_later hC co, cell_later hC ck⟩)
    (first
    | (with_reducible refine Calls.mono (HX.out _ hC) ?_; rintro e z1 ⟨rfl, hb1⟩; replace hC := Below.on hC hb1)
    | (with_reducible refine Calls.mono (HY.out _ hC) ?_; rintro e z1 ⟨rfl, hb1⟩; replace hC := Below.on hC hb1)
    | (with_reducible refine Calls.mono (HC.out _ hC) ?_; rintro e z1 ⟨rfl, hb1⟩; replace hC := Below.on hC hb1))
  all_goals
    go_wp2
    go_ret
    exact ⟨rfl, hC⟩
set_option maxRecDepth 100000 in
theorem cmpR_of {w : World} {bo bk bn : Nat} {ds : Bool} {vo vk : Value} (ho : CmpV w vo (fun x y => if ds then cmpVt y x else cmpVt x y)) (hk : KeyR w vk bn) (co : w.cell? ⟨bo, 0, none⟩ = some vo) (ck : w.cell? ⟨bk, 0, none⟩ = some vk) :
    CmpR w (.func (.func 116) #[] #[.pointer (some ⟨bo, 0, none⟩), .pointer (some ⟨bk, 0, none⟩)]) bn ds :=
  ⟨_, _, rfl, fun args w' => by rfl, fun x y a n c a2 n2 c2 Q w' hb hx hy h1 h2 => sorted1_any (ho.later hb) (hk.later hb) (cell_later hb co) (cell_later hb ck) hx hy h1 h2⟩

end Go.Proofs.YtnlaaejdianfjaaGreat
