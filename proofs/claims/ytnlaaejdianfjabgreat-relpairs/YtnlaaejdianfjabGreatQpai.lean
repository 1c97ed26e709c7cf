import Derived.Test.YtnlaaejdianfjabGreatQpah
import Derived.Test.YtnlaaejdianfjabGreatQpag
namespace Go.Proofs.YtnlaaejdianfjabGreat
open Go.RowKit
set_option linter.unusedVariables false
set_option linter.unusedSimpArgs false

/-- A row by numbers; rows by numbers. -/
def rowX : List Int → List Nat → List Vt
  | [], _ => []
  | k :: ks, zs => vaX k zs :: rowX ks zs.tail
def rowsX (ks : List Int) : Nat → List Nat → List (List Vt)
  | 0, _ => []
  | n + 1, zs => if zs = [] then [] else rowX ks zs :: rowsX ks n (zs.drop ks.length)
theorem rowX_len : ∀ (ks : List Int) (zs : List Nat), (rowX ks zs).length = ks.length
  | [], _ => rfl
  | k :: ks, zs => by rw [rowX, List.length_cons, rowX_len ks, List.length_cons]
theorem rowX_at : ∀ (ks : List Int) (zs : List Nat) (i : Nat) (h1 : i < (rowX ks zs).length) (h2 : i < ks.length), (rowX ks zs)[i] = vaX ks[i] (zs.drop i)
  | [], _, i, _, h2 => by simp at h2
  | k :: ks, zs, 0, _, _ => rfl
  | k :: ks, zs, i + 1, h1, h2 => by
    have := rowX_at ks zs.tail i (by simpa [rowX] using h1) (by simpa using h2)
    simp only [rowX, List.getElem_cons_succ]
    rw [this]
    congr 1
    cases zs <;> simp
theorem vaX_ok {k : Int} (hk : k = 1 ∨ k = 2) (zs : List Nat) : (vaX k zs).1 = k ∧ VaOK k (vaX k zs).2.1 (vaX k zs).2.2 := by
  unfold vaX
  rcases hk with rfl | rfl
  · rw [if_neg (by decide)]
    refine ⟨rfl, .inr ⟨rfl, rfl, ?_⟩⟩
    have := hdM_lt zs (m := 12) (by decide)
    by_cases h : hdM zs 12 = 11
    · right; rw [if_pos h]
    · left; rw [if_neg h]; dsimp only; omega
  · rw [if_pos rfl]
    refine ⟨rfl, .inl ⟨rfl, rfl, ?_⟩⟩
    have := hdM_lt zs (m := 5) (by decide)
    rcases (show hdM zs 5 = 0 ∨ hdM zs 5 = 1 ∨ hdM zs 5 = 2 ∨ hdM zs 5 = 3 ∨ hdM zs 5 = 4 by omega) with h | h | h | h | h <;> rw [h] <;> simp
theorem rowX_ok {L : List Co} (hk : ∀ c ∈ L, c.2.1 = 1 ∨ c.2.1 = 2) (zs : List Nat) : RwOK L (rowX (L.map fun c => c.2.1) zs) := by
  refine ⟨by rw [rowX_len, List.length_map], fun i h1 h2 => ?_⟩
  rw [rowX_at _ _ i h2 (by simpa using h1)]
  have := vaX_ok (hk L[i] (List.getElem_mem h1)) (zs.drop i)
  simpa using this
theorem rowsX_len (ks : List Int) : ∀ (n : Nat) (zs : List Nat), (rowsX ks n zs).length ≤ n
  | 0, _ => Nat.le_refl _
  | n + 1, zs => by
    rw [rowsX]
    split
    · simp
    · rw [List.length_cons]
      have := rowsX_len ks n (zs.drop ks.length)
      omega
theorem rowsX_nil (ks : List Int) (n : Nat) : rowsX ks n [] = [] := by cases n <;> simp [rowsX]
theorem rowsX_mem {L : List Co} (hk : ∀ c ∈ L, c.2.1 = 1 ∨ c.2.1 = 2) : ∀ (n : Nat) (zs : List Nat), ∀ r ∈ rowsX (L.map fun c => c.2.1) n zs, RwOK L r
  | 0, _, r, h => by simp [rowsX] at h
  | n + 1, zs, r, h => by
    rw [rowsX] at h
    split at h
    · simp at h
    · rw [List.mem_cons] at h
      rcases h with rfl | h
      · exact rowX_ok hk zs
      · exact rowsX_mem hk n _ r h
set_option maxRecDepth 100000 in
set_option maxHeartbeats 4000000 in
theorem rowLX_any {g : Nat} {zs : List Nat} {w : World} (hp : PkX w g zs) (L : List Co) (hL : L.length ≤ 100) (hk12 : ∀ c ∈ L, c.2.1 = 1 ∨ c.2.1 = 2) (nm : ByteArray) {ca : Option Addr} {cn cc : Nat} (xa : Option Addr) (xn xc : Nat) (hc : RowIs eCol (fun b => b ≠ g) w (.slice ca cn cc) L) :
    Calls Tryz.prog 12 #[.pointer (some ⟨g, 0, none⟩), .agg #[.string nm, .slice ca cn cc, .slice xa xn xc]] w fun e w' => ∃ a m d, e = .returned (.slice a m d) ∧ OwnR 39 3 w.heap.size w' (.slice a m d) ((rowX (L.map fun c => c.2.1) zs).map vC) ∧ PkX w' g (zs.drop L.length) ∧ But g w w' := by
  obtain ⟨hn, hnc, hcm⟩ := row_lens hc
  have hgl := hp.lt
  have bT := Bk.new w (.cells #[.string nm, .slice ca cn cc, .slice xa xn xc] 32)
  have hB0 : But g w (w.alloc (.cells #[.string nm, .slice ca cn cc, .slice xa xn xc] 32)) := (But.refl g w).alloc _
  have hp0 := hp.alloc (.cells #[.string nm, .slice ca cn cc, .slice xa xn xc] 32)
  have hR0 : Hid (∀ w', But g w w' → RowIs eCol (fun b => b ≠ g) w' (.slice ca cn cc) L) := hid fun w' hb => hc.keep (by decide) fun b hq hl => hb.block b hl hq
  clear hp hc
  go_enter Tryz.func12, Tryz.ntmps12
  go_upto_region 1 with fail
  have hs0 : w.heap.size ≤ (w.alloc (.cells #[.string nm, .slice ca cn cc, .slice xa xn xc] 32)).heap.size := by simp
  generalize w.alloc (.cells #[.string nm, .slice ca cn cc, .slice xa xn xc] 32) = W at *
  go_wp2
  go_loopw [5, 6] (fun v5 v6 wr => ∃ (k : Nat) (V : List Vt) (a : Option Addr) (m d : Nat), k ≤ L.length ∧ v6 = .int .i64 k ∧ v5 = .slice a m d ∧ V.length = k ∧ Hid (V = (rowX (L.map fun c => c.2.1) zs).take k) ∧ OwnR 39 3 (w.heap.size + 1) wr (.slice a m d) (V.map vC) ∧ PkX wr g (zs.drop k) ∧ But g w wr ∧ Bk wr w.heap.size (.cells #[.string nm, .slice ca cn cc, .slice xa xn xc] 32)) (fun _ i _ => L.length - (intOf i).toNat)
  case atStart => exact ⟨0, [], none, 0, 0, Nat.zero_le _, rfl, rfl, rfl, hid (by simp), OwnR.nil _ _ _ _, by simpa using hp0, hB0, bT⟩
  case round =>
    obtain ⟨k, V, a, m, d, hk, rfl, rfl, hV, HV, ho, hpr, hBr, bTr⟩ := hrel
    have t1 := bTr.cell 1
    simp only [List.getElem?_toArray, List.getElem?_cons_zero, List.getElem?_cons_succ] at t1
    by_cases hlt : k < L.length
    · obtain ⟨_, _, _, e', _, _, _, hx⟩ := hR0.out wr hBr
      cases e'
      obtain ⟨b, o, hca, hq, hi⟩ := hx (by omega)
      rw [hca] at t1
      obtain ⟨cs, hE, h2, h3⟩ := hi k hlt
      obtain ⟨x, hxl⟩ : ∃ x, L[k] = x := ⟨_, rfl⟩
      have hE' : cs = [.string L[k].1, .int .i64 L[k].2.1, .string L[k].2.2] := hE
      subst hE'
      have c1 : wr.cell? ⟨b, o + k * 3 + 1, none⟩ = some (.int .i64 L[k].2.1) := h3 1 (show 1 < 3 by decide)
      have hx12 := hk12 L[k] (List.getElem_mem hlt)
      rw [hxl] at c1 hx12
      have HVl : Hid _ := hid (valueX_any hpr x.2.1 hx12)
      have HXl : Hid _ := hid hxl
      have hkm : (k : Int) < (cn : Int) := by omega
      replace hca : Hid _ := hid hca
      have hk5 : k ≤ 100 := by omega
      clear h2 h3 hi hx hE bT hB0 hp0 hxl
      go_wp2_with fail
      refine Calls.mono HVl.out ?_
      rintro e w4 ⟨rfl, hp4, hb4⟩
      obtain ⟨⟨vk, i, s⟩, hvx⟩ : ∃ v, vaX x.2.1 (zs.drop k) = v := ⟨_, rfl⟩
      rw [hvx]
      have HVX : Hid _ := hid hvx
      clear hvx
      dsimp only [vV] at *
      have ho4 := ho.but hb4 (by omega)
      have hB4 := hBr.trans hb4
      have bT4 : Bk w4 w.heap.size (.cells #[.string nm, .slice ca cn cc, .slice xa xn xc] 32) := ⟨(hb4.block w.heap.size bTr.lt (by omega)).trans bTr.row⟩
      have ho5 := ho4.alloc (.cells #[.int .i64 vk, .int .i64 i, .string s] 39)
      have hB5 := hB4.alloc (.cells #[.int .i64 vk, .int .i64 i, .string s] 39)
      have bT5 := bT4.later (bal (Below.refl _ _) (.cells #[.int .i64 vk, .int .i64 i, .string s] 39))
      have hp5 := hp4.alloc (.cells #[.int .i64 vk, .int .i64 i, .string s] 39)
      have hblk := ho4.blk
      have hsz5 : w.heap.size + 1 ≤ (w4.alloc (.cells #[.int .i64 vk, .int .i64 i, .string s] 39)).heap.size := by have := bT5.lt; omega
      clear HVl ho4 hB4 bT4 hb4 hp4 ho hpr hBr bTr
      go_wp2_with (first | (at_builtin; go_must (refine wpList_appR Tryz.underlying48 Tryz.infoTVal rfl (by decide) (by decide) rfl (.tmp 14) (.tmp 23) rfl _ (V.map vC) w4.heap.size [.int .i64 vk, .int .i64 i, .string s] rfl rfl ho5 rfl (by simp [Value.oneCell']) (new3 w4 _ _ _ _) (by rw [List.length_map]; omega) hsz5 ?_)) | fail)
      intro v' w6 hO6 hg6 hown
      obtain ⟨a2, m2, d2, rfl⟩ := hO6.sl
      have hb7 := below_grows (Below.refl (w.heap.size + 1) _) hsz5 hg6 fun k e => (hblk k e).1
      have hB6 : But g w w6 := ⟨hb7.os.trans hB5.os, hb7.tape.trans hB5.tape, hb7.output.trans hB5.output, Nat.le_trans hB5.size hb7.size, fun k hk hkg => (hb7.block k (by omega)).trans (hB5.block k hk hkg)⟩
      have bT6 : Bk w6 w.heap.size (.cells #[.string nm, .slice ca cn cc, .slice xa xn xc] 32) := ⟨(hb7.block w.heap.size (by omega)).trans bT5.row⟩
      have hp6 := hp5.grown hg6 fun k e => by have := (hblk k e).1; omega
      have HT : Hid _ := hid (And.intro hO6 (And.intro hB6 (And.intro bT6 hp6)))
      clear hO6 hB6 bT6 hp6 hg6 hown ho5 hB5 bT5 hp5 hblk hb7
      go_wp2
      go_roundw
      case rel =>
        refine ⟨k + 1, V ++ [(vk, i, s)], a2, m2, d2, hlt, by go_num, rfl, by rw [List.length_append]; simp [hV], hid ?_, by rw [List.map_append]; exact HT.out.1, by have := HT.out.2.2.2; rwa [List.tail_drop] at this, HT.out.2.1, HT.out.2.2.1⟩
        have hlx : k < (rowX (L.map fun c => c.2.1) zs).length := by rw [rowX_len, List.length_map]; exact hlt
        rw [List.take_succ_eq_append_getElem hlx, ← HV.out, rowX_at _ _ k hlx (by simpa using hlt)]
        simp only [List.getElem_map]
        rw [HXl.out, HVX.out]
      case measure => simp only [intOf]; omega
    · obtain rfl : k = L.length := by omega
      have hge : ¬ (L.length : Int) < (cn : Int) := by omega
      have hgd : decide ((L.length : Int) < (cn : Int)) = false := by simpa using hge
      go_wp2
      go_ret
      have hVr : V = rowX (L.map fun c => c.2.1) zs := by rw [HV.out, List.take_of_length_le (by rw [rowX_len, List.length_map]; omega)]
      subst hVr
      exact ⟨a, m, d, rfl, ⟨ho.1, owns_base ho.2 (by omega)⟩, by rw [← hn]; exact hpr, hBr⟩

end Go.Proofs.YtnlaaejdianfjabGreat
namespace Go.Proofs.YtnlaaejdianfjabGreat
open Go.RowKit
set_option linter.unusedVariables false
set_option linter.unusedSimpArgs false

/-- A slice of bytes that are these numbers. -/
def NumX (w : World) (a : Option Addr) (zs : List Nat) : Prop := 0 < zs.length → ∃ b o, a = some ⟨b, o, none⟩ ∧ b < w.heap.size ∧ ∀ i (h : i < zs.length), zs[i] ≤ 255 ∧ w.cell? ⟨b, o + i, none⟩ = some (.int .u8 (zs[i] : Int))
theorem NumX.later {w w' : World} {a : Option Addr} {zs : List Nat} (h : NumX w a zs) (hb : Below w.heap.size w w') : NumX w' a zs := fun hp => by
  obtain ⟨b, o, ha, hl, hz⟩ := h hp
  exact ⟨b, o, ha, by have := hb.size; omega, fun i hi => ⟨(hz i hi).1, cell_later hb (hz i hi).2⟩⟩
theorem NumX.of {w : World} {a : Option Addr} {len cap : Nat} {xs : List Int} (h : Rd .u8 w a len cap xs) (hx : ∀ x ∈ xs, 0 ≤ x ∧ x ≤ 255) : ∃ zs : List Nat, zs.length = len ∧ NumX w a zs := by
  refine ⟨xs.map Int.toNat, by rw [List.length_map, h.len], fun hp => ?_⟩
  rw [List.length_map] at hp
  obtain ⟨b, o, ha, hc⟩ := h.cells (by rw [← h.len]; exact hp)
  have hb : b < w.heap.size := World.block_lt_of_cell? _ _ (hc 0 (by rw [← h.len]; exact hp))
  refine ⟨b, o, ha, hb, fun i hi => ?_⟩
  rw [List.length_map] at hi
  have hm := hx xs[i] (List.getElem_mem hi)
  rw [List.getElem_map]
  refine ⟨by omega, ?_⟩
  have := hc i (by rw [← h.len]; exact hi)
  rw [nth, List.getElem?_eq_getElem hi] at this
  rw [this, Int.toNat_of_nonneg hm.1]
  rfl
set_option maxRecDepth 100000 in
theorem madeX_any {w : World} {a : Option Addr} {len cap : Nat} {zs : List Nat} (h0 : zs.length = len) (h1 : len ≤ cap) (h2 : cap ≤ 9223372036854775807) (h3 : NumX w a zs) :
    Calls Tryz.prog 10 #[.slice a len cap] w fun e w' => e = .returned (.pointer (some ⟨w.heap.size, 0, none⟩)) ∧ PkX w' w.heap.size zs ∧ Below w.heap.size w w' := by
  have hb := bal (Below.refl _ w) (.cells #[.slice a len cap, .int .i64 ((0 : Nat) : Int)] 75)
  have hp : PkX (w.alloc (.cells #[.slice a len cap, .int .i64 ((0 : Nat) : Int)] 75)) w.heap.size zs := ⟨a, len, cap, 0, ⟨heap_alloc_new w _⟩, by omega, h1, h2, fun hp => by
    obtain ⟨b, o, ha, hl, hz⟩ := h3 hp
    exact ⟨b, o, ha, hl, by have := hb.size; omega, fun i hi => ⟨(hz i hi).1, by rw [Nat.zero_add]; exact cell_later hb (hz i hi).2⟩⟩⟩
  have T : Hid _ := hid (And.intro hp hb)
  clear hp hb h3
  go_enter Tryz.func10, Tryz.ntmps10
  go_wp2
  go_ret
  exact ⟨rfl, T.out.1, T.out.2⟩
theorem Tryz.infoTRow : (Tryz.prog.info? 48).map (fun i => (i.zero, i.size, i.bytes)) = some (some (.slice none 0 0), 1, 24) := by kernel_rfl
/-- What a call that tells rows of its own tells. -/
def TeRs (B : Nat) (w' : World) (v : Value) (R : List (List Vt)) : Prop := ∃ css, OwnR 48 1 B w' v css ∧ css.length = R.length ∧ ∀ i (h1 : i < R.length) (h2 : i < css.length), eRow.E (fun b => B ≤ b ∧ some b ≠ v.ownBlock) w' R[i] css[i]
theorem TeRs.row {B : Nat} {w' : World} {v : Value} {R : List (List Vt)} (h : TeRs B w' v R) : RowIs eRow (fun b => B ≤ b) w' v R := by
  obtain ⟨css, ho, hl, hE⟩ := h
  obtain ⟨a, m, d, rfl⟩ := ho.sl
  exact OwnR.rowE (e := eRow) ho hl.symm (fun b hb _ => hb) fun i h1 h2 => eRow.mono (fun b hb _ => hb.1) (hE i h1 h2)
theorem OwnR.lenV {ty k B : Nat} {w : World} {a : Option Addr} {m d : Nat} {css : List (List Value)} (h : OwnR ty k B w (.slice a m d) css) : m = css.length := by
  rcases h.2 with ⟨_, ⟨h1, h2⟩ | ⟨g, cap, cur, h1, _⟩⟩
  · injection h1 with _ h3 _; omega
  · injection h1 with _ h3 _
theorem TeRs.but {B g : Nat} {w w' : World} {v : Value} {R : List (List Vt)} (h : TeRs B w v R) (hb : But g w w') (hg : g < B) : TeRs B w' v R := by
  obtain ⟨css, ho, hl, hE⟩ := h
  exact ⟨css, ho.but hb hg, hl, fun i h1 h2 => eRow.keep (fun b hq hlt => hb.block b hlt (by have := hq.1; omega)) (hE i h1 h2)⟩
theorem TeRs.base {B B' : Nat} {w : World} {v : Value} {R : List (List Vt)} (h : TeRs B w v R) (hB : B' ≤ B) : TeRs B' w v R := by
  obtain ⟨css, ho, hl, hE⟩ := h
  exact ⟨css, ⟨ho.1, owns_base ho.2 hB⟩, hl, fun i h1 h2 => eRow.mono (fun b hq _ => ⟨Nat.le_trans hB hq.1, hq.2⟩) (hE i h1 h2)⟩
set_option maxRecDepth 100000 in
set_option maxHeartbeats 4000000 in
theorem rowsP_any {w : World} {a : Option Addr} {len cap : Nat} {zs : List Nat} (h0 : zs.length = len) (h1 : len ≤ cap) (h2 : cap ≤ 9223372036854775807) (h3 : NumX w a zs) (L : List Co) (hL : L.length ≤ 100) (hk12 : ∀ c ∈ L, c.2.1 = 1 ∨ c.2.1 = 2) (nm : ByteArray) {ca : Option Addr} {cn cc : Nat} (xa : Option Addr) (xn xc : Nat) (hc : RowIs eCol (fun _ => True) w (.slice ca cn cc) L) (N : Nat) (hN : N ≤ 100) :
    Calls Tryz.prog 6 #[.slice a len cap, .agg #[.string nm, .slice ca cn cc, .slice xa xn xc], .int .i64 (N : Int)] w fun e w' => ∃ v, e = .returned v ∧ TeRs w.heap.size w' v (rowsX (L.map fun c => c.2.1) N zs) ∧ Below w.heap.size w w' := by
  have hw := bal (Below.refl w.heap.size w) (.cells #[.string nm, .slice ca cn cc, .slice xa xn xc] 32)
  have bT := Bk.new w (.cells #[.string nm, .slice ca cn cc, .slice xa xn xc] 32)
  have HM : Hid _ := hid (madeX_any h0 h1 h2 (h3.later hw))
  have hcl : RowIs eCol (fun b => b < w.heap.size) w (.slice ca cn cc) L := hc.mono (by decide) fun _ _ hl => hl
  have hgs : (w.alloc (.cells #[.string nm, .slice ca cn cc, .slice xa xn xc] 32)).heap.size = w.heap.size + 1 := by simp
  have hww := h0
  clear hc h3
  go_enter Tryz.func6, Tryz.ntmps6
  go_upto_region 1 with fail
  generalize w.alloc (.cells #[.string nm, .slice ca cn cc, .slice xa xn xc] 32) = W at *
  obtain ⟨g, hg⟩ : ∃ g, W.heap.size = g := ⟨_, rfl⟩
  rw [hg] at HM
  go_wp2_with fail
  (try rw [hg])
  refine Calls.mono HM.out ?_
  rintro e w2 ⟨rfl, hp2, hb2⟩
  have hgw : w.heap.size < g := by omega
  have hw2 := Below.on hw (hg ▸ hb2)
  have bT2 : Bk w2 w.heap.size (.cells #[.string nm, .slice ca cn cc, .slice xa xn xc] 32) := bT.later (hg ▸ hb2)
  have hg2 : g < w2.heap.size := hp2.lt
  replace hg : Hid _ := hid hg
  clear HM hb2 bT hw
  have HCo : Hid (∀ w', But g w2 w' → RowIs eCol (fun b => b ≠ g) w' (.slice ca cn cc) L) := hid fun w' hb => (hcl.keep (by decide) fun b hq hl => ((hb.block b (by have := hw2.size; omega) (by omega)).trans (hw2.block b hq))).mono (by decide) fun b hq _ => by omega
  go_wp2
  go_loopw [8] (fun v8 wr => ∃ (R : List (List Vt)) (ys : List Nat) (va : Option Addr) (vm vd : Nat), v8 = .slice va vm vd ∧ R.length ≤ N ∧ Hid (rowsX (L.map fun c => c.2.1) N zs = R ++ rowsX (L.map fun c => c.2.1) (N - R.length) ys) ∧ Hid (TeRs w2.heap.size wr (.slice va vm vd) R) ∧ PkX wr g ys ∧ But g w2 wr ∧ Bk wr w.heap.size (.cells #[.string nm, .slice ca cn cc, .slice xa xn xc] 32)) (fun v _ => N - (match v with | .slice _ n _ => n | _ => 0))
  case atStart => exact ⟨[], zs, none, 0, 0, rfl, Nat.zero_le _, hid (by simp), hid ⟨[], OwnR.nil _ _ _ _, rfl, fun i h1 => by simp at h1⟩, hp2, But.refl _ _, bT2⟩
  case round =>
    obtain ⟨R, ys, va, vm, vd, rfl, hRN, HRx, HTe, hpr, hBr, bTr⟩ := hrel
    have hvm : R.length = vm := by
      obtain ⟨css, ho, hl, -⟩ := HTe.out
      rw [← hl]
      exact (ho.lenV).symm
    have HOv : Hid _ := hid (overX_any hpr)
    have HFin : Hid (∀ w' : World, But g w2 w' → Below w.heap.size w w') := hid fun w' hb => hb.below hw2 (by omega) hw2.size
    by_cases hy : ys = []
    · rw [show decide (ys = []) = true from by simpa using hy] at HOv
      go_wp2_with fail
      refine Calls.mono HOv.out ?_
      rintro e w3 ⟨rfl, hp3, hb3⟩
      have hB3 := hBr.trans hb3
      have hR : rowsX (L.map fun c => c.2.1) N zs = R := by rw [HRx.out, hy, rowsX_nil, List.append_nil]
      have HT3 : Hid (TeRs w2.heap.size w3 (.slice va vm vd) R) := hid (HTe.out.but hb3 hg2)
      have HR : Hid _ := hid hR
      clear HOv HRx HTe hR
      go_wp2
      go_ret
      exact ⟨_, rfl, by rw [HR.out]; exact HT3.out.base hw2.size, HFin.out _ hB3⟩
    · rw [show decide (ys = []) = false from by simpa using hy] at HOv
      go_wp2_with fail
      refine Calls.mono HOv.out ?_
      rintro e w3 ⟨rfl, hp3, hb3⟩
      have hB3 := hBr.trans hb3
      have HT3 : Hid (TeRs w2.heap.size w3 (.slice va vm vd) R) := hid (HTe.out.but hb3 hg2)
      have bT3 : Bk w3 w.heap.size (.cells #[.string nm, .slice ca cn cc, .slice xa xn xc] 32) := ⟨(hb3.block w.heap.size bTr.lt (by omega)).trans bTr.row⟩
      clear HOv HTe hb3
      by_cases hlt : R.length < N
      · have t0 := bT3.cell 0
        have t1 := bT3.cell 1
        have t2 := bT3.cell 2
        simp only [List.getElem?_toArray, List.getElem?_cons_zero, List.getElem?_cons_succ] at t0 t1 t2
        have HRw : Hid _ := hid (rowLX_any hp3 L hL hk12 nm xa xn xc (HCo.out w3 hB3))
        have hlI : (vm : Int) < (N : Int) := by omega
        have hs3 : w2.heap.size ≤ w3.heap.size := hB3.size
        obtain ⟨rw0, hrw⟩ : ∃ r, rowX (L.map fun c => c.2.1) ys = r := ⟨_, rfl⟩
        have HNx : Hid (rowsX (L.map fun c => c.2.1) N zs = (R ++ [rw0]) ++ rowsX (L.map fun c => c.2.1) (N - (R ++ [rw0]).length) (ys.drop L.length)) := hid (by
          rw [HRx.out, show N - R.length = (N - (R ++ [rw0]).length) + 1 from by rw [List.length_append]; simp; omega, rowsX, if_neg hy, hrw, List.length_map]
          simp)
        rw [hrw] at HRw
        clear hrw HRx
        go_wp2_with fail
        refine Calls.mono HRw.out ?_
        rintro e w4 ⟨ra, rm, rd, rfl, hor, hp4, hb4⟩
        obtain ⟨css, ho, hcl, hE⟩ := HT3.out
        have hblk3 := ho.blk
        have ho4 := ho.but hb4 hg2
        have ho5 := ho4.alloc (.cells #[.slice ra rm rd] 48)
        have hB4 := hB3.trans hb4
        have hB5 := hB4.alloc (.cells #[.slice ra rm rd] 48)
        have hblk := ho4.blk
        have bT5 : Bk (w4.alloc (.cells #[.slice ra rm rd] 48)) w.heap.size (.cells #[.string nm, .slice ca cn cc, .slice xa xn xc] 32) := (⟨(hb4.block w.heap.size bT3.lt (by omega)).trans bT3.row⟩ : Bk w4 w.heap.size (.cells #[.string nm, .slice ca cn cc, .slice xa xn xc] 32)).later (bal (Below.refl _ _) _)
        have hp5 := hp4.alloc (.cells #[.slice ra rm rd] 48)
        have hsz5 : w2.heap.size ≤ (w4.alloc (.cells #[.slice ra rm rd] 48)).heap.size := hB5.size
        have hrr : RowIs eVal (fun b => w3.heap.size ≤ b) w4 (.slice ra rm rd) rw0 := OwnR.rowE (e := eVal) hor (by simp) (fun b hb _ => hb) fun i h1 h2 => by
          show _ = _
          simp
        have hEn : eRow.E (fun b => w2.heap.size ≤ b ∧ some b ≠ (Value.slice va vm vd).ownBlock) (w4.alloc (.cells #[.slice ra rm rd] 48)) rw0 [.slice ra rm rd] := ⟨ra, rm, rd, rfl, (hrr.keep (by decide) fun b _ hl => (bal (Below.refl _ _) (.cells #[.slice ra rm rd] 48)).block b hl).mono (by decide) fun b hq _ => ⟨Nat.le_trans hs3 hq, fun hbk => by have := (hblk3 b hbk.symm).2; have hq' : w3.heap.size ≤ b := hq; omega⟩⟩
        have hEo : ∀ i (h1 : i < R.length) (h2 : i < css.length), eRow.E (fun b => w2.heap.size ≤ b ∧ some b ≠ (Value.slice va vm vd).ownBlock) (w4.alloc (.cells #[.slice ra rm rd] 48)) R[i] css[i] := fun i h1 h2 => eRow.keep (fun b _ hl => (bal (Below.refl _ _) (.cells #[.slice ra rm rd] 48)).block b hl) (eRow.keep (fun b hq hl => hb4.block b hl (by have := hq.1; omega)) (hE i h1 h2))
        have HEn : Hid _ := hid hEn
        have HEo : Hid _ := hid hEo
        clear HRw HT3 ho ho4 hE hEn hEo hrr hor hb4 hB4 hp4 t0 t1 t2 bT3
        go_wp2_with (first | (at_builtin; go_must (refine wpList_appR Tryz.underlying33 Tryz.infoTRow rfl (by decide) (by decide) rfl (.tmp 20) (.tmp 24) rfl _ css w4.heap.size [.slice ra rm rd] rfl rfl ho5 rfl (by simp [Value.oneCell']) (newV1 w4 _ _) (by omega) hsz5 ?_)) | fail)
        intro v' w6 hO6 hg6 hown
        obtain ⟨a6, m6, d6, rfl⟩ := hO6.sl
        have hb7 := below_grows (Below.refl w2.heap.size _) hsz5 hg6 fun k e => (hblk k e).1
        have hB6 : But g w2 w6 := ⟨hb7.os.trans hB5.os, hb7.tape.trans hB5.tape, hb7.output.trans hB5.output, Nat.le_trans hB5.size hb7.size, fun k hk hkg => (hb7.block k hk).trans (hB5.block k hk hkg)⟩
        have bT6 : Bk w6 w.heap.size (.cells #[.string nm, .slice ca cn cc, .slice xa xn xc] 32) := ⟨(hb7.block w.heap.size (by have := hw2.size; omega)).trans bT5.row⟩
        have hp6 := hp5.grown hg6 fun k e => by have := (hblk k e).1; omega
        have hTe6 : TeRs w2.heap.size w6 (.slice a6 m6 d6) (R ++ [rw0]) := ⟨css ++ [[.slice ra rm rd]], hO6, by simp [hcl], fun i h1 h2 => by
          by_cases hi : i < css.length
          · rw [List.getElem_append_left hi, List.getElem_append_left (by omega)]
            exact eRow.grow (HEo.out i (by omega) hi) hg6 (by rw [World.size_alloc]; exact hown)
          · have hic : i = css.length := by rw [List.length_append] at h2; simp at h2; omega
            have hir : i = R.length := by omega
            rw [List.getElem_append_right (by omega), List.getElem_append_right (by omega)]
            simp only [hic, Nat.sub_self, List.getElem_cons_zero, hcl]
            exact eRow.grow HEn.out hg6 (by rw [World.size_alloc]; exact hown)⟩
        have hm6 : m6 = R.length + 1 := by rw [hO6.lenV]; simp [hcl]
        have HT6 : Hid _ := hid (And.intro hTe6 (And.intro hB6 (And.intro bT6 hp6)))
        clear hO6 hg6 hown hB5 ho5 hblk hblk3 HEn HEo hTe6 hB6 bT6 hp6 hp5 bT5 hb7 hB3 hp3 hBr hpr bTr
        go_wp2
        go_roundw
        case rel => exact ⟨R ++ [rw0], ys.drop L.length, a6, m6, d6, rfl, by rw [List.length_append]; simp; omega, HNx, hid HT6.out.1, HT6.out.2.2.2, HT6.out.2.1, HT6.out.2.2.1⟩
        case measure => dsimp only; omega
      · have hR : rowsX (L.map fun c => c.2.1) N zs = R := by rw [HRx.out, show N - R.length = 0 from by omega]; simp [rowsX]
        have HR : Hid _ := hid hR
        have hge : ¬ (vm : Int) < (N : Int) := by omega
        have hgd : decide ((vm : Int) < (N : Int)) = false := by simpa using hge
        clear HRx hR
        go_wp2
        go_ret
        exact ⟨_, rfl, by rw [HR.out]; exact HT3.out.base hw2.size, HFin.out _ hB3⟩

end Go.Proofs.YtnlaaejdianfjabGreat
namespace Go.Proofs.YtnlaaejdianfjabGreat
open Go.RowKit
set_option linter.unusedVariables false
set_option linter.unusedSimpArgs false

end Go.Proofs.YtnlaaejdianfjabGreat
namespace Go.Proofs.YtnlaaejdianfjabGreat
open Go.ChangeShapes Go.WideShapes Go.ChangeAt Go.RowKit
set_option linter.unusedVariables false
set_option linter.unusedSimpArgs false

end Go.Proofs.YtnlaaejdianfjabGreat
namespace Go.Proofs.YtnlaaejdianfjabGreat
open Go.RowKit
set_option linter.unusedVariables false
set_option linter.unusedSimpArgs false

/-- Where a row stands, from behind: ahead of the first (from behind) that it may stand behind. -/
def plcP (st : List Vt → Bool) (out : List (List Vt)) : Nat → Nat
  | 0 => 0
  | k + 1 => if st (out.getD k []) then k + 1 else plcP st out k
/-- May x stand behind y? -/
def behP (bn : Nat) (ds : Bool) (x y : List Vt) : Bool := if ds then decide (0 ≤ cmpVt (y.getD bn vZ) (x.getD bn vZ)) else decide (cmpVt (y.getD bn vZ) (x.getD bn vZ) ≤ 0)
/-- Has each row the by-th? -/
def wholeP (by_ : Int) (L : List (List Vt)) : Bool := decide (0 ≤ by_) && L.all fun r => decide (by_ < (r.length : Int))
def insP (bn : Nat) (ds : Bool) (out : List (List Vt)) (x : List Vt) : List (List Vt) := out.take (plcP (behP bn ds x) out out.length) ++ x :: out.drop (plcP (behP bn ds x) out out.length)
/-- Rows sorted. -/
def srtP (by_ : Int) (ds : Bool) (L : List (List Vt)) : List (List Vt) := if wholeP by_ L then L.foldl (insP by_.toNat ds) [] else L
end Go.Proofs.YtnlaaejdianfjabGreat
namespace Go.Proofs.YtnlaaejdianfjabGreat
open Go.RowKit
set_option linter.unusedVariables false
set_option linter.unusedSimpArgs false

theorem cloneL_any (s : ByteArray) (hs : s.size ≤ 281474976710656) (w : World) : Calls Tryz.prog 64 #[.string s] w fun e w' => e = .returned (.string s) ∧ Below w.heap.size w w' := by
  have H : Hid _ := Tryz.stringslite_Clone s w hs
  go_enter Tryz.func64, Tryz.ntmps64
  go_wp2_with fail
  refine Calls.mono H.out ?_
  rintro e w1 ⟨rfl, hb⟩
  clear H
  go_wp2
  go_ret
  exact ⟨rfl, hb⟩
set_option maxRecDepth 100000 in
set_option maxHeartbeats 2000000 in
theorem fresh_any (v : Vt) (hs : v.2.2.size ≤ 281474976710656) (w : World) : Calls Tryz.prog 38 #[vV v] w fun e w' => e = .returned (vV v) ∧ Below w.heap.size w w' := by
  obtain ⟨v0, v1, v2⟩ := v
  have HC : Hid (∀ w, _) := hid fun w => cloneL_any v2 hs w
  have hb := bal (bal (Below.refl w.heap.size w) (.cells #[.int .i64 v0, .int .i64 v1, .string v2] 39)) zV
  have b1 : Bv ((w.alloc (.cells #[.int .i64 v0, .int .i64 v1, .string v2] 39)).alloc zV) w.heap.size v0 v1 v2 := (⟨heap_alloc_new w _⟩ : Bv (w.alloc (.cells #[.int .i64 v0, .int .i64 v1, .string v2] 39)) w.heap.size v0 v1 v2).later (bal (Below.refl _ _) _)
  have b2 : Bv ((w.alloc (.cells #[.int .i64 v0, .int .i64 v1, .string v2] 39)).alloc zV) (w.heap.size + 1) 0 0 ⟨#[]⟩ := by
    have := Bv.new (w.alloc (.cells #[.int .i64 v0, .int .i64 v1, .string v2] 39))
    rwa [World.size_alloc] at this
  go_enter Tryz.func38, Tryz.ntmps38
  go_upto_region 1 with fail
  generalize (w.alloc (.cells #[.int .i64 v0, .int .i64 v1, .string v2] 39)).alloc zV = W at *
  obtain ⟨a0, a1, a2⟩ := b1.cells
  go_wp2_with fail
  refine Calls.mono (HC.out _) ?_
  rintro e w1 ⟨rfl, hb1⟩
  have hB := Below.on hb hb1
  clear a0 a1 a2
  obtain ⟨c0, c1, c2⟩ := (b1.later hb1).cells
  obtain ⟨d0, d1, d2⟩ := (b2.later hb1).cells
  obtain ⟨f0, f1, f2⟩ := (b1.later hb1).free
  obtain ⟨g0, g1, g2⟩ := (b2.later hb1).free
  have hl := (b2.later hb1).lt
  clear HC b1 b2 hb hb1
  go_wp2
  exact bodyPost_ret (v := vV (v0, v1, v2)) (by simp [results, Tryz.results38, go_sem, d0, d1, d2]) rfl ⟨rfl, below3 (hB.setCell (p := ⟨w.heap.size, 2, none⟩) (Nat.le_refl _) _) (by omega) _ _ _⟩

theorem TeRs.snoc {B : Nat} {w5 w6 : World} {va : Option Addr} {vm vd : Nat} {css : List (List Value)} {R : List (List Vt)} {r : List Vt} {ra : Option Addr} {rm rd : Nat} {v' : Value} (hcl : css.length = R.length)
    (hE : ∀ i (h1 : i < R.length) (h2 : i < css.length), eRow.E (fun b => B ≤ b ∧ some b ≠ (Value.slice va vm vd).ownBlock) w5 R[i] css[i]) (hEn : eRow.E (fun b => B ≤ b ∧ some b ≠ (Value.slice va vm vd).ownBlock) w5 r [.slice ra rm rd])
    (hO : OwnR 48 1 B w6 v' (css ++ [[.slice ra rm rd]])) (hg : w5.grownBy w6 (Value.slice va vm vd).ownBlock) (hown : v'.ownBlock = (Value.slice va vm vd).ownBlock ∨ v'.ownBlock = some w5.heap.size) : TeRs B w6 v' (R ++ [r]) := by
  obtain ⟨a6, m6, d6, rfl⟩ := hO.sl
  refine ⟨css ++ [[.slice ra rm rd]], hO, by simp [hcl], fun i h1 h2 => ?_⟩
  by_cases hi : i < css.length
  · rw [List.getElem_append_left hi, List.getElem_append_left (by omega)]
    exact eRow.grow (hE i (by omega) hi) hg hown
  · have hic : i = css.length := by rw [List.length_append] at h2; simp at h2; omega
    have hir : i = R.length := by omega
    rw [List.getElem_append_right (by omega), List.getElem_append_right (by omega)]
    simp only [hic, Nat.sub_self, List.getElem_cons_zero, hcl]
    exact eRow.grow hEn hg hown
theorem TeRs.later {B : Nat} {w w' : World} {v : Value} {R : List (List Vt)} (h : TeRs B w v R) (hb : Below w.heap.size w w') : TeRs B w' v R := by
  obtain ⟨css, ho, hl, hE⟩ := h
  exact ⟨css, ho.later hb, hl, fun i h1 h2 => eRow.keep (fun b _ hlt => hb.block b hlt) (hE i h1 h2)⟩
theorem TeRs.len {B : Nat} {w : World} {a : Option Addr} {m d : Nat} {R : List (List Vt)} (h : TeRs B w (.slice a m d) R) : m = R.length := by
  obtain ⟨css, ho, hl, -⟩ := h
  rw [← hl]; exact ho.lenV
abbrev cVs (v : Vt) : List Value := [.int .i64 v.1, .int .i64 v.2.1, .string v.2.2]
set_option maxRecDepth 100000 in
set_option maxHeartbeats 4000000 in
theorem copied_any {L : List (List Vt)} (hN : L.length ≤ 500) (hM : ∀ l ∈ L, l.length ≤ 500) (hs : ∀ l ∈ L, ∀ v ∈ l, v.2.2.size ≤ 281474976710656) {Q : Nat → Prop} {w : World} {a : Option Addr} {n c : Nat} (h : RowIs eRow Q w (.slice a n c) L) :
    Calls Tryz.prog 20 #[.slice a n c] w fun e w' => ∃ v, e = .returned v ∧ TeRs w.heap.size w' v L ∧ Below w.heap.size w w' := by
  obtain ⟨l1, l2, l3⟩ := row_lens h
  have HR : Hid (∀ w', Below w.heap.size w w' → RowIs eRow Q w' (.slice a n c) L) := hid fun w' hb => h.keep (by decide) fun b _ hl => hb.block b hl
  have HM : Hid _ := hid hM
  have HS : Hid _ := hid hs
  clear h hM hs
  obtain ⟨ti, ht1, ht2, ht3, ht4⟩ := info_parts Tryz.infoTRow
  obtain ⟨tj, hj1, hj2, hj3, hj4⟩ := info_parts Tryz.infoTVal
  go_enter Tryz.func20, Tryz.ntmps20
  go_upto_region 1 with fail
  go_wp2_with (first | (at_make; go_must (refine wpList_make_own w rfl _ _ 33 rfl w.heap.size 48 ti _ 1 Tryz.underlying33 ht1 ht2 ht3 .i64 .i64 (n : Int) n rfl rfl rfl (by rw [ht4]; omega) (by unfold maxLen; omega) (Nat.le_refl _) ?_)) | fail)
  intro w1 ho hg
  have hb1 : Below w.heap.size w w1 := below_grows (Below.refl _ _) (Nat.le_refl _) hg (by simp)
  have HT : Hid (TeRs w.heap.size w1 (.slice (some ⟨w.heap.size, 0, none⟩) 0 n) []) := hid ⟨[], ⟨fun cs h => by simp at h, ho⟩, rfl, fun i h1 => absurd h1 (by simp)⟩
  clear ho hg
  go_wp2
  go_loopw [3, 14] (fun v3 v14 wr => ∃ (k : Nat) (va : Option Addr) (vd : Nat), k ≤ n ∧ v14 = .int .i64 k ∧ v3 = .slice va k vd ∧ Below w.heap.size w wr ∧ Hid (TeRs w.heap.size wr (.slice va k vd) (L.take k))) (fun _ i _ => n - (intOf i).toNat)
  case atStart => exact ⟨0, _, _, Nat.zero_le _, rfl, rfl, hb1, HT⟩
  case round =>
    obtain ⟨k, va, vd, hk, rfl, rfl, hB, HK⟩ := hrel
    clear hb1 HT
    generalize wr = wo at *
    by_cases hlt : k < n
    · obtain ⟨b, o, xa, xn, xc, rfl, -, x0, rx⟩ := row1 (HR.out wo hB) (k := k) (by omega)
      obtain ⟨x, hx⟩ : ∃ x, L[k]'(by omega) = x := ⟨_, rfl⟩
      rw [hx] at rx
      obtain ⟨p1, p2, p3⟩ := row_lens rx
      have hmx : x ∈ L := hx ▸ List.getElem_mem _
      have h5x := HM.out _ hmx
      have HSx : Hid _ := hid (HS.out _ hmx)
      have HNx : Hid (L.take (k + 1) = L.take k ++ [x]) := hid (by rw [List.take_succ_eq_append_getElem (by omega), hx])
      have HRX : Hid (∀ w', Below wo.heap.size wo w' → RowIs eVal Q w' (.slice xa xn xc) x) := hid fun w' hb => rx.keep (by decide) fun b _ hl => hb.block b hl
      have hkm : (k : Int) < (n : Int) := by omega
      have hwk := wrapS hlt l2 l3
      clear rx hx hmx
      go_wp2_with (first | (at_make; go_must (refine wpList_make_own wo rfl _ _ 48 rfl wo.heap.size 39 tj _ 3 Tryz.underlying48 hj1 hj2 hj3 .i64 .i64 (xn : Int) xn rfl rfl rfl (by rw [hj4]; omega) (by unfold maxLen; omega) (Nat.le_refl _) ?_)) | fail)
      intro w2 ho hg
      have hb2 : Below wo.heap.size wo w2 := below_grows (Below.refl _ _) (Nat.le_refl _) hg (by simp)
      have HO : Hid (OwnR 39 3 wo.heap.size w2 (.slice (some ⟨wo.heap.size, 0, none⟩) 0 xn) []) := hid ⟨fun cs h => by simp at h, ho⟩
      clear ho hg x0
      go_wp2
      go_loopw [6, 23] (fun v6 v23 wz => ∃ (j : Nat) (ra : Option Addr) (rd : Nat), j ≤ xn ∧ v23 = .int .i64 j ∧ v6 = .slice ra j rd ∧ Below wo.heap.size wo wz ∧ Hid (OwnR 39 3 wo.heap.size wz (.slice ra j rd) ((x.take j).map cVs))) (fun _ i _ => xn - (intOf i).toNat)
      case atStart => exact ⟨0, _, _, Nat.zero_le _, rfl, rfl, hb2, HO⟩
      case round =>
        obtain ⟨j, ra, rd, hj, rfl, rfl, hZ, HJ⟩ := hrel
        clear hb2 HO
        by_cases hjx : j < xn
        · obtain ⟨b', o', rfl, -, c0, c1, c2⟩ := val1 (HRX.out _ hZ) (k := j) (by omega)
          obtain ⟨y, hy⟩ : ∃ y, x[j]'(by omega) = y := ⟨_, rfl⟩
          have hys := HSx.out y (hy ▸ List.getElem_mem _)
          obtain ⟨C, hC⟩ : ∃ C, (x.take j).map cVs = C := ⟨_, rfl⟩
          have HNy : Hid ((x.take (j + 1)).map cVs = C ++ [cVs y] ∧ C.length = j) := hid ⟨by rw [List.take_succ_eq_append_getElem (by omega), hy, List.map_append, hC]; rfl, by rw [← hC, List.length_map, List.length_take]; omega⟩
          rw [hC] at HJ
          clear hC
          rw [hy] at c0 c1 c2
          obtain ⟨y0, y1, y2⟩ := y
          have hjm : (j : Int) < (xn : Int) := by omega
          have hwj := wrapS hjx p2 p3
          have by1 := Bk.new wr (.cells #[.int .i64 y0, .int .i64 y1, .string y2] 39)
          have hZ1 := hZ.alloc hZ.size (.cells #[.int .i64 y0, .int .i64 y1, .string y2] 39)
          have hO1 := HJ.out.alloc (.cells #[.int .i64 y0, .int .i64 y1, .string y2] 39)
          have HF : Hid (∀ w, _) := hid fun w => fresh_any (y0, y1, y2) hys w
          clear hy
          go_upto_region 9 with fail
          generalize wr.alloc (.cells #[.int .i64 y0, .int .i64 y1, .string y2] 39) = W at *
          have d0 := by1.cell 0
          have d1 := by1.cell 1
          have d2 := by1.cell 2
          simp only [List.getElem?_toArray, List.getElem?_cons_zero, List.getElem?_cons_succ] at d0 d1 d2
          clear by1 c0 c1 c2
          have HO1 : Hid _ := hid hO1
          clear hO1
          go_wp2_with fail
          refine Calls.mono (HF.out _) ?_
          rintro e w4 ⟨rfl, hb4⟩
          have ho4 := (HO1.out.later hb4).alloc (.cells #[.int .i64 y0, .int .i64 y1, .string y2] 39)
          have hZ4 := Below.on hZ1 hb4
          have hZ5 := hZ4.alloc hZ4.size (.cells #[.int .i64 y0, .int .i64 y1, .string y2] 39)
          have hB5 : wo.heap.size ≤ (w4.alloc (.cells #[.int .i64 y0, .int .i64 y1, .string y2] 39)).heap.size := hZ5.size
          have hblk := ho4.blk
          have hcl := HNy.out.2
          clear HF HO1 hZ1 hb4 d0 d1 d2 hZ4
          go_wp2_with (first | (at_builtin; go_must (refine wpList_appR Tryz.underlying48 Tryz.infoTVal rfl (by decide) (by decide) rfl (.tmp 27) (.tmp 30) rfl _ _ w4.heap.size [.int .i64 y0, .int .i64 y1, .string y2] rfl rfl ho4 rfl (by simp [Value.oneCell']) (new3 w4 _ _ _ _) (by omega) hB5 ?_)) | fail)
          intro v' w6 hO6 hg6 hown
          have hZ6 := below_grows hZ5 hB5 hg6 fun k e => (hblk k e).1
          obtain ⟨a2, m2, d2, rfl⟩ := hO6.sl
          have hm2 : m2 = j + 1 := by
            have h9 := hO6.lenV
            simp at h9
            omega
          have HO6 : Hid (OwnR 39 3 wo.heap.size w6 (.slice a2 m2 d2) ((x.take (j + 1)).map cVs)) := hid (by rw [HNy.out.1]; exact hO6)
          clear hg6 hown ho4 hZ5 hblk hO6 hcl HNy
          subst hm2
          go_wp2
          go_roundw
          case rel => exact ⟨j + 1, a2, d2, by omega, by go_num, rfl, hZ6, HO6⟩
          case measure => simp only [intOf]; omega
        · obtain rfl : j = xn := by omega
          have HO6 : Hid (OwnR 39 3 wo.heap.size wr (.slice ra j rd) (x.map cVs)) := hid (by
            have := HJ.out
            rwa [← p1, List.take_length, p1] at this)
          have hblk3 : ∀ b, (Value.slice va k vd).ownBlock = some b → b < wo.heap.size := fun b e => by
            obtain ⟨css, ho, -, -⟩ := HK.out
            exact (ho.blk b e).2
          obtain ⟨css, ho, hcl, hE⟩ := HK.out.later hZ
          have hck : css.length = k := ho.lenV.symm
          have hblk := ho.blk
          have ho5 := ho.alloc (.cells #[.slice ra j rd] 48)
          have hB4 := Below.on hB hZ
          have hB5 := hB4.alloc hB4.size (.cells #[.slice ra j rd] 48)
          have hs5 : w.heap.size ≤ (wr.alloc (.cells #[.slice ra j rd] 48)).heap.size := hB5.size
          have hEn : eRow.E (fun b => w.heap.size ≤ b ∧ some b ≠ (Value.slice va k vd).ownBlock) (wr.alloc (.cells #[.slice ra j rd] 48)) x [.slice ra j rd] := ⟨ra, j, rd, rfl, ((OwnR.rowE (e := eVal) (Q := fun b => wo.heap.size ≤ b) HO6.out (by simp) (fun b hb _ => hb) fun i h1 h2 => by
            show _ = _
            simp).keep (by decide) fun b _ hl => (bal (Below.refl _ _) (.cells #[.slice ra j rd] 48)).block b hl).mono (by decide) fun b hq _ => ⟨Nat.le_trans hB.size hq, fun hbk => by have := hblk3 b hbk.symm; have hq' : wo.heap.size ≤ b := hq; omega⟩⟩
          have HEn : Hid _ := hid hEn
          have HEo : Hid (∀ i (h1 : i < (L.take k).length) (h2 : i < css.length), eRow.E (fun b => w.heap.size ≤ b ∧ some b ≠ (Value.slice va k vd).ownBlock) (wr.alloc (.cells #[.slice ra j rd] 48)) (L.take k)[i] css[i]) := hid fun i h1 h2 => eRow.keep (fun b _ hl => (bal (Below.refl _ _) (.cells #[.slice ra j rd] 48)).block b hl) (hE i h1 h2)
          have HCl : Hid _ := hid hcl
          clear hE hEn hB4 hcl ho HO6 hblk3 HK
          go_wp2_with (first | (at_builtin; go_must (refine wpList_appR Tryz.underlying33 Tryz.infoTRow rfl (by decide) (by decide) rfl (.tmp 33) (.tmp 35) rfl _ css wr.heap.size [.slice ra j rd] rfl rfl ho5 rfl (by simp [Value.oneCell']) (newV1 wr _ _) (by omega) hs5 ?_)) | fail)
          intro v' w6 hO6 hg6 hown
          obtain ⟨a6, m6, d6, rfl⟩ := hO6.sl
          have hm6 : m6 = k + 1 := by
            have h9 := hO6.lenV
            simp at h9
            omega
          have hB6 := below_grows hB5 hs5 hg6 fun b e => (hblk b e).1
          have HT6 : Hid (TeRs w.heap.size w6 (.slice a6 m6 d6) (L.take (k + 1))) := hid (by rw [HNx.out]; exact TeRs.snoc HCl.out HEo.out HEn.out hO6 hg6 (by rw [World.size_alloc]; exact hown))
          clear hO6 hg6 hown hB5 ho5 hblk HEn HEo HCl HNx hck
          subst hm6
          go_wp2
          go_roundw
          case rel => exact ⟨k + 1, a6, d6, by omega, by go_num, rfl, hB6, HT6⟩
          case measure => simp only [intOf]; omega
    · obtain rfl : k = n := by omega
      have HL : Hid (L.take k = L) := hid (by rw [← l1, List.take_length])
      go_wp2
      go_ret
      exact ⟨_, rfl, by rw [← HL.out]; exact HK.out, hB⟩

end Go.Proofs.YtnlaaejdianfjabGreat
