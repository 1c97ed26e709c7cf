import Derived.Test.YtmfoenhbldacfaaQau
/- Put, Get, Drop, Len, Pages of a heap. -/
namespace Go.Proofs.Ytmfoenhbldacfaa
open Go.RowKit
set_option linter.unusedVariables false
set_option linter.unusedSimpArgs false

/-- A record in a page without any. -/
theorem layE_new {b : List Int} : layE [] (vac []) b = if b = [] ∨ 200 < b.length then 7 else 0 := by
  by_cases h : b = [] ∨ 200 < b.length
  · rw [if_pos h]; exact if_pos h
  · rw [if_neg h]
    refine layE_fit (fun e => h (.inl e)) (by have := mt Or.inr h; omega) ?_
    have : gapR [] = 244 := by decide
    have := mt Or.inr h
    omega
set_option maxRecDepth 100000 in
/-- A page's no to b, in a page of the call's own. -/
theorem putnew_any {w : World} {g : Nat} {ao : Option Addr} {c : Nat} {b : List Int} (hP : Pi w g (List.replicate 256 0) [] allP) (hb : Rd .u8 w ao b.length c b) (hby : By b) (hao : ∀ a, ao = some a → a.block ≠ g) :
    Calls Try.prog 20 #[.pointer (some ⟨g, 0, none⟩), .slice ao b.length c] w fun e w' => e = .returned (.tuple #[.int .i64 0, .int .i64 (if b = [] ∨ 200 < b.length then 7 else 0)]) ∧ Rest g w w' := by
  refine Calls.mono (put_any hP hb hby hao) ?_
  rintro e w' ⟨rfl, _, hr⟩
  refine ⟨?_, hr⟩
  rw [layE_new]
  congr 3
  unfold putS
  split <;> rfl
/-- Put, of what is no record. -/
theorem Rd.ft {B : Nat} {w w' : World} {ao : Option Addr} {n c : Nat} {b : List Int} (hb : Rd .u8 w ao n c b) (hao : ∀ a, ao = some a → ∃ A, w.heap[a.block]? = some (.cells A 5 (0, 0))) (h : Ft B noX w w') :
    Rd .u8 w' ao n c b ∧ ∀ a, ao = some a → ∃ A, w'.heap[a.block]? = some (.cells A 5 (0, 0)) := by
  have hx : ∀ a, ao = some a → w'.heap[a.block]? = w.heap[a.block]? ∧ ∃ A, w.heap[a.block]? = some (.cells A 5 (0, 0)) := fun a ha => by
    obtain ⟨A, hA⟩ := hao a ha
    exact ⟨by rw [h.x hA (nh_cells (by decide) (by decide) (by decide)), hA], A, hA⟩
  refine ⟨⟨hb.len, hb.cap, hb.max, hb.non, fun hn => ?_⟩, fun a ha => ?_⟩
  · obtain ⟨bb, o, ha, hc⟩ := hb.cells hn
    refine ⟨bb, o, ha, fun i hi => ?_⟩
    rw [World.cell?_of_block (a := ⟨bb, o + i, none⟩) (hx _ ha).1]
    exact hc i hi
  · obtain ⟨h1, A, h2⟩ := hx a ha
    exact ⟨A, by rw [h1]; exact h2⟩

set_option maxRecDepth 100000 in
set_option maxHeartbeats 4000000 in
theorem hput_any {B : Nat} {w : World} {hb : Nat} {M : Int → Option (List Int)} {N k : Nat} (h : HA B w hb M N k) (id : Int) {ao : Option Addr} {c : Nat} {b : List Int} (hrd : Rd .u8 w ao b.length c b) (hby : By b) (h0 : b ≠ []) (h2 : b.length ≤ 200)
    (hao : ∀ a, ao = some a → ∃ A, w.heap[a.block]? = some (.cells A 5 (0, 0))) (hN : N ≤ 700) (hk : k ≤ 900000) :
    Calls Try.prog 9 #[.pointer (some ⟨hb, 0, none⟩), .int .u64 id, .slice ao b.length c] w fun e w' => e = .returned (.int .i64 0) ∧ HA B w' hb (fun j => if j = id then some b else M j) (if M id = none then N + 1 else N) (k + 1) ∧ Ft B noX w w' := by
  obtain ⟨H, rfl, hI, hp, hW, hM, hlen, hnx⟩ := h.ex
  have hfew := pages_few hp hW hI.kg
  have hlt := hI.lt
  -- the page of the call's own
  have HN : Hid _ := new_any w
  have HPn : Hid (∀ w1, Pi w1 w.heap.size (List.replicate 256 0) [] allP → Below w.heap.size w w1 → Calls Try.prog 20 #[.pointer (some ⟨w.heap.size, 0, none⟩), .slice ao b.length c] w1 fun e w' => e = .returned (.tuple #[.int .i64 0, .int .i64 0]) ∧ Below w.heap.size w w') := fun w1 k1 k2 => by
    have := putnew_any k1 (hrd.later k2) hby (fun a ha => by
      obtain ⟨A, hA⟩ := hao a ha
      have := (Array.getElem?_eq_some_iff.1 hA).1
      omega)
    rw [if_neg (by intro e; rcases e with e | e; exact h0 e; omega)] at this
    refine Calls.mono this ?_
    rintro e w2 ⟨rfl, hr⟩
    exact ⟨rfl, Rest.below k2 hr (Nat.le_refl _) k2.size⟩
  have HL : Hid (∀ w1, Below w.heap.size w w1 → (Instr.lookup 42 (.map H.pm) (.int .u64 id) true).run Try.prog w1 = .ok (.tuple #[((lk H.P id).map plV).getD (.agg #[.int .i64 0, .int .i64 0]), .bool (lk H.P id).isSome]) w1 ∧ w1.cell? ⟨H.hb, 0, none⟩ = some (.map H.pm)) := fun w1 k => ⟨(hI.later k).lookP id, bcl k hI.cells.1⟩
  have hne1 : (fun j => if j = id then some b else M j) = fun j => if j = id then some b else rcd H j := by funext j; rw [hM]
  rw [hne1]
  cases hkp : lk H.P id with
  | none =>
    have hMn : M id = none := by rw [← hM]; exact rcd_none hkp
    rw [if_pos hMn]
    have HY : Hid (∀ w1, Below w.heap.size w w1 → Calls Try.prog 22 #[.pointer (some ⟨H.hb, 0, none⟩), .int .u64 id, .slice ao b.length c] w1 fun e w' => e = .returned (.tuple #[]) ∧ HA B w' H.hb (fun j => if j = id then some b else rcd H j) (N + 1) (k + 1) ∧ Ft B noX w w') := fun w1 k1 => by
      obtain ⟨r1, r2⟩ := hrd.ft (B := B) hao (Ft.of k1)
      refine Calls.mono (lay_heap (hI.later k1) hp id r1 hby h0 h2 r2 (by omega) (by omega)) ?_
      rintro e w2 ⟨rfl, H', j1, j2, j3, j4⟩
      have hk2 : id ∉ ks H.P := lk_none.1 hkp
      obtain ⟨q1, q2⟩ := (hW.fresh hk2).lay hI.kp hI.kg j1.kg h0 j4
      obtain ⟨n, g, R, e1, -, -, e2, e3, -⟩ := j4
      exact ⟨rfl, ⟨⟨H', e2, j1, j2, q1, q2, by rw [e1, len_up, if_neg hk2, hlen], by omega⟩⟩, (Ft.of k1).trans j3⟩
    rw [hkp] at HL
    simp only [Option.map_none, Option.getD_none, Option.isSome_none] at HL
    clear hI hp hW hrd hao hM hne1 hby h
    go_enter Try.func9, Try.ntmps9
    go_wp2_with fail
    refine Calls.mono HN.out ?_
    rintro e w1 ⟨rfl, hP1, hb1⟩
    have HP1 : Hid _ := HPn.out w1 hP1 hb1
    clear HPn hP1 HN
    go_wp2_with fail
    refine Calls.mono HP1.out ?_
    rintro e w2 ⟨rfl, hb2⟩
    obtain ⟨l1, l2⟩ := HL.out w2 hb2
    have hb3 : Below w.heap.size w (w2.alloc (.cells #[.int .i64 0, .int .i64 0] 57)) := hb2.alloc hb2.size _
    have HY2 : Hid _ := HY.out _ hb3
    clear HP1 HL HY
    go_wp2_with fail
    refine Calls.mono HY2.out ?_
    rintro e w4 ⟨rfl, r1, r2⟩
    clear HY2
    go_wp2
    go_ret
    exact ⟨rfl, r1, r2⟩
  | some p =>
    obtain ⟨n, s⟩ := p
    have hmem := lk_mem hkp
    obtain ⟨g, R, hG, hs⟩ := hW.ln id n s hmem (by simp)
    have hMs : ¬ M id = none := by rw [← hM, rcd_at hI.kp hI.kg hmem hG]; simp
    rw [if_neg hMs]
    have HD : Hid (∀ w1, Below w.heap.size w w1 → Calls Try.prog 21 #[.pointer (some ⟨H.hb, 0, none⟩), .agg #[.int .i64 n, .int .i64 (s : Int)]] w1 fun e w' => e = .returned (.tuple #[]) ∧ (∃ v, HI B w' { H with fv := v, G := chG H.G n g (trimR (R.set s [])), F := chF H.F n R (trimR (R.set s [])) }) ∧ Ft B noX w1 w') := fun w1 k1 => hdrop_any (hI.later k1) hp hG hs (by omega)
    have HY : Hid (∀ w1 v, HI B w1 { H with fv := v, G := chG H.G n g (trimR (R.set s [])), F := chF H.F n R (trimR (R.set s [])) } → Ft B noX w w1 → Calls Try.prog 22 #[.pointer (some ⟨H.hb, 0, none⟩), .int .u64 id, .slice ao b.length c] w1 fun e w' => e = .returned (.tuple #[]) ∧ HA B w' H.hb (fun j => if j = id then some b else rcd H j) N (k + 1) ∧ Ft B noX w w') := fun w1 v k1 k2 => by
      obtain ⟨r1, r2⟩ := hrd.ft hao k2
      have hp2 := (hp.exempt (some n)).change (fv := v) hI.kg hG (trimR_tm (R.set s []))
      have hlen2 : (chG H.G n g (trimR (R.set s []))).length ≤ H.G.length := by
        unfold chG
        split
        · have := (dl_sub (L := up H.G n (g, trimR (R.set s []))) (k := n)).length_le
          rw [len_up, if_pos (mem_key hG)] at this
          exact this
        · rw [len_up, if_pos (mem_key hG)]; exact Nat.le_refl _
      refine Calls.mono (lay_heap k1 hp2 id r1 hby h0 h2 r2 (Nat.le_trans hlen2 (by omega)) (Nat.le_trans hnx (by omega))) ?_
      rintro e w2 ⟨rfl, H', j1, j2, j3, j4⟩
      obtain ⟨c1, c2⟩ := hW.cut hI.kp hI.kg hmem hG (H' := { H with fv := v, G := chG H.G n g (trimR (R.set s [])), F := chF H.F n R (trimR (R.set s [])) }) rfl rfl
      obtain ⟨q1, q2⟩ := c1.lay (H' := H') hI.kp (chG_nodup hI.kg _ _ _) j1.kg h0 j4
      obtain ⟨n', g', R', e1, -, -, e2, e3, -⟩ := j4
      refine ⟨rfl, ⟨⟨H', e2, j1, j2, q1, fun j => ?_, ?_, by have : H'.nx ≤ H.nx + 1 := e3; omega⟩⟩, k2.trans j3⟩
      · rw [q2 j]
        by_cases hj : j = id
        · rw [if_pos hj, if_pos hj]
        · rw [if_neg hj, if_neg hj, c2 j hj]
      · rw [e1]
        show (up H.P id (n', vac R')).length = N
        rw [len_up, if_pos (mem_key hmem), hlen]
    rw [hkp] at HL
    simp only [Option.map_some, Option.getD_some, Option.isSome_some, plV] at HL
    clear hI hp hW hrd hao hM hne1 hby h
    go_enter Try.func9, Try.ntmps9
    go_wp2_with fail
    refine Calls.mono HN.out ?_
    rintro e w1 ⟨rfl, hP1, hb1⟩
    have HP1 : Hid _ := HPn.out w1 hP1 hb1
    clear HPn hP1 HN
    go_wp2_with fail
    refine Calls.mono HP1.out ?_
    rintro e w2 ⟨rfl, hb2⟩
    obtain ⟨l1, l2⟩ := HL.out w2 hb2
    have hb3 : Below w.heap.size w (w2.alloc (.cells #[.int .i64 n, .int .i64 (s : Int)] 57)) := hb2.alloc hb2.size _
    have HD2 : Hid _ := HD.out _ hb3
    clear HP1 HL HD
    go_wp2_with fail
    refine Calls.mono HD2.out ?_
    rintro e w3 ⟨rfl, ⟨v, hI3⟩, hft3⟩
    have HY2 : Hid _ := HY.out _ v hI3 ((Ft.of hb3).trans hft3)
    clear HD2 HY hI3 hft3
    go_wp2_with fail
    refine Calls.mono HY2.out ?_
    rintro e w4 ⟨rfl, r1, r2⟩
    clear HY2
    go_wp2
    go_ret
    exact ⟨rfl, r1, r2⟩

set_option maxRecDepth 100000 in
set_option maxHeartbeats 2000000 in
/-- Put, of what is no record. -/
theorem hputno_any {B : Nat} {w : World} {hb : Nat} {M : Int → Option (List Int)} {N k : Nat} (h : HA B w hb M N k) (id : Int) {ao : Option Addr} {c : Nat} {b : List Int} (hrd : Rd .u8 w ao b.length c b) (hby : By b) (h0 : b = [] ∨ 200 < b.length)
    (hao : ∀ a, ao = some a → a.block < w.heap.size) :
    Calls Try.prog 9 #[.pointer (some ⟨hb, 0, none⟩), .int .u64 id, .slice ao b.length c] w fun e w' => e = .returned (.int .i64 7) ∧ Below w.heap.size w w' := by
  have HN : Hid _ := new_any w
  have HPn : Hid (∀ w1, Pi w1 w.heap.size (List.replicate 256 0) [] allP → Below w.heap.size w w1 → Calls Try.prog 20 #[.pointer (some ⟨w.heap.size, 0, none⟩), .slice ao b.length c] w1 fun e w' => e = .returned (.tuple #[.int .i64 0, .int .i64 7]) ∧ Below w.heap.size w w') := fun w1 k1 k2 => by
    have := putnew_any k1 (hrd.later k2) hby (fun a ha => by
      have := hao a ha
      omega)
    rw [if_pos h0] at this
    refine Calls.mono this ?_
    rintro e w2 ⟨rfl, hr⟩
    exact ⟨rfl, Rest.below k2 hr (Nat.le_refl _) k2.size⟩
  clear h hrd hby h0 hao
  go_enter Try.func9, Try.ntmps9
  go_wp2_with fail
  refine Calls.mono HN.out ?_
  rintro e w1 ⟨rfl, hP1, hb1⟩
  have HP1 : Hid _ := HPn.out w1 hP1 hb1
  clear HPn hP1 HN
  go_wp2_with fail
  refine Calls.mono HP1.out ?_
  rintro e w2 ⟨rfl, hb2⟩
  clear HP1
  go_wp2
  go_ret
  exact ⟨rfl, hb2⟩

end Go.Proofs.Ytmfoenhbldacfaa
/- Get, Drop, Len, Pages of a heap. -/
namespace Go.Proofs.Ytmfoenhbldacfaa
open Go.RowKit
set_option linter.unusedVariables false
set_option linter.unusedSimpArgs false

set_option maxRecDepth 100000 in
set_option maxHeartbeats 800000 in
theorem hget_any {B : Nat} {w : World} {hb : Nat} {M : Int → Option (List Int)} {N k : Nat} (h : HA B w hb M N k) (id : Int) {b : List Int} (hm : M id = some b) :
    Calls Try.prog 15 #[.pointer (some ⟨hb, 0, none⟩), .int .u64 id] w fun e w' => (∃ v, e = .returned (.tuple #[v, .int .i64 0]) ∧ Own w.heap.size w' v b) ∧ Below w.heap.size w w' := by
  obtain ⟨H, rfl, hI, hp, hW, hM, hlen, hnx⟩ := h.ex
  have hkp : id ∈ ks H.P := (hW.rcd_key hI.kp hI.kg id).2 (by rw [hM, hm]; simp)
  obtain ⟨⟨n, s⟩, hkp⟩ := lk_key.1 hkp
  obtain ⟨g, R, hG, hs⟩ := hW.ln id n s (lk_mem hkp) (by simp)
  have hbe : rc R s = b := by
    have := rcd_at hI.kp hI.kg (lk_mem hkp) hG
    rw [hM, hm] at this
    exact (Option.some.inj this).symm
  have HF : Hid _ := find_heap hI id
  rw [hkp] at HF
  simp only [Option.map_some, Option.getD_some, Option.isSome_some, plV, if_true] at HF
  obtain ⟨mb, hgm, hmb, hMb, hlk⟩ := hI.gmap hG
  have HG : Hid (∀ w', Below w.heap.size w w' → Calls Try.prog 27 #[.pointer (some ⟨g, 0, none⟩), .int .i64 (s : Int)] w' fun e w2 => (∃ v, e = .returned (.tuple #[v, .int .i64 0]) ∧ Own w.heap.size w2 v b) ∧ Below w.heap.size w w2) := fun w' k1 => by
    obtain ⟨_, Bt, hP⟩ := (hI.later k1).pg n g R hG
    refine Calls.mono (get_any hP s hs) ?_
    rintro e w2 ⟨⟨v, rfl, hv⟩, hb2⟩
    rw [hbe] at hv
    exact ⟨⟨v, rfl, hv.base k1.size⟩, bthen k1 hb2⟩
  have HK : Hid (∀ w', Below w.heap.size w w' → w'.cell? ⟨H.hb, 1, none⟩ = some (.map (some mb)) ∧ (Instr.lookup 43 (.map (some mb)) (.int .i64 n) false).run Try.prog w' = .ok (.pointer (some ⟨g, 0, none⟩)) w') := fun w' k1 => by
    refine ⟨bcl k1 (by rw [← hgm]; exact hI.cells.2.1), hlk w' (hMb.keep (k1.block mb hMb.lt))⟩
  clear h hI hp hW hM hkp hG hs hbe hMb hlk
  go_enter Try.func15, Try.ntmps15
  go_wp2_with fail
  refine Calls.mono HF.out ?_
  rintro e w1 ⟨rfl, hb1⟩
  have hb2 : Below w.heap.size w (w1.alloc (.cells #[.int .i64 n, .int .i64 (s : Int)] 57)) := hb1.alloc hb1.size _
  have k0 : (w1.alloc (.cells #[.int .i64 n, .int .i64 (s : Int)] 57)).cell? ⟨w1.heap.size, 0, none⟩ = some (.int .i64 n) := cell_of_row _ _ _ _ _ _ (heap_alloc_last w1 _)
  have k1 : (w1.alloc (.cells #[.int .i64 n, .int .i64 (s : Int)] 57)).cell? ⟨w1.heap.size, 1, none⟩ = some (.int .i64 (s : Int)) := cell_of_row _ _ _ _ _ _ (heap_alloc_last w1 _)
  clear HF
  go_upto_region 4 with fail
  generalize hWe : (w1.alloc (.cells #[.int .i64 n, .int .i64 (s : Int)] 57)) = W at *
  have hC : Below w.heap.size w W.drew := hb2.drew
  have hD : Below W.heap.size W W.drew := (Below.refl _ _).drew
  have kk : Hid (∀ w', Below W.heap.size W w' → w'.cell? ⟨w1.heap.size, 0, none⟩ = some (.int .i64 n) ∧ w'.cell? ⟨w1.heap.size, 1, none⟩ = some (.int .i64 (s : Int))) := fun w' k => ⟨bcl k k0, bcl k k1⟩
  obtain ⟨c1, c2⟩ := HK.out _ hC
  obtain ⟨c3, c4⟩ := kk.out _ hD
  go_region_with (first | (refine Calls.mono (HG.out _ hC) ?_; rintro e w3 ⟨⟨v, rfl, hv⟩, hb3⟩))
  all_goals
    go_wp2
    go_ret2
    exact ⟨⟨v, rfl, hv⟩, hb3⟩

set_option maxRecDepth 100000 in
theorem hgetno_any {B : Nat} {w : World} {hb : Nat} {M : Int → Option (List Int)} {N k : Nat} (h : HA B w hb M N k) (id : Int) (hm : M id = none) :
    Calls Try.prog 15 #[.pointer (some ⟨hb, 0, none⟩), .int .u64 id] w fun e w' => e = .returned (.tuple #[.slice none 0 0, .int .i64 22]) ∧ Below w.heap.size w w' := by
  obtain ⟨H, rfl, hI, hp, hW, hM, hlen, hnx⟩ := h.ex
  have hkp : lk H.P id = none := lk_none.2 (fun hk => (hW.rcd_key hI.kp hI.kg id).1 hk (by rw [hM, hm]))
  have HF : Hid _ := find_heap hI id
  rw [hkp] at HF
  simp only [Option.map_none, Option.getD_none, Option.isSome_none] at HF
  clear h hI hp hW hM hkp
  go_enter Try.func15, Try.ntmps15
  go_wp2_with fail
  refine Calls.mono HF.out ?_
  rintro e w1 ⟨rfl, hb1⟩
  have hb2 : Below w.heap.size w (w1.alloc (.cells #[.int .i64 0, .int .i64 0] 57)) := hb1.alloc hb1.size _
  clear HF
  go_wp2
  go_ret2
  exact ⟨rfl, hb2⟩

set_option maxRecDepth 100000 in
set_option maxHeartbeats 800000 in
theorem hdropm_any {B : Nat} {w : World} {hb : Nat} {M : Int → Option (List Int)} {N k : Nat} (h : HA B w hb M N k) (id : Int) (hm : M id ≠ none) (hN : N ≤ 700) :
    Calls Try.prog 12 #[.pointer (some ⟨hb, 0, none⟩), .int .u64 id] w fun e w' => e = .returned (.int .i64 0) ∧ HA B w' hb (fun j => if j = id then none else M j) (N - 1) k ∧ Ft B noX w w' := by
  obtain ⟨H, rfl, hI, hp, hW, hM, hlen, hnx⟩ := h.ex
  have hfew := pages_few hp hW hI.kg
  have hkk : id ∈ ks H.P := (hW.rcd_key hI.kp hI.kg id).2 (by rw [hM]; exact hm)
  obtain ⟨⟨n, s⟩, hkp⟩ := lk_key.1 hkk
  have hmem := lk_mem hkp
  obtain ⟨g, R, hG, hs⟩ := hW.ln id n s hmem (by simp)
  have HF : Hid _ := find_heap hI id
  rw [hkp] at HF
  simp only [Option.map_some, Option.getD_some, Option.isSome_some, plV, if_true] at HF
  obtain ⟨pb, hpb⟩ : ∃ pb, H.pm = some pb := by
    cases e : H.pm with
    | none => rw [hI.pnil e] at hmem; cases hmem
    | some pb => exact ⟨pb, rfl⟩
  have HD : Hid (∀ w1, Below w.heap.size w w1 → Calls Try.prog 21 #[.pointer (some ⟨H.hb, 0, none⟩), .agg #[.int .i64 n, .int .i64 (s : Int)]] w1 fun e w' => e = .returned (.tuple #[]) ∧ (∃ v, HI B w' { H with fv := v, G := chG H.G n g (trimR (R.set s [])), F := chF H.F n R (trimR (R.set s [])) }) ∧ Ft B noX w1 w') := fun w1 k1 => hdrop_any (hI.later k1) hp hG hs (by omega)
  have HE : Hid (∀ w1 v, HI B w1 { H with fv := v, G := chG H.G n g (trimR (R.set s [])), F := chF H.F n R (trimR (R.set s [])) } → w1.cell? ⟨H.hb, 0, none⟩ = some (.map (some pb)) ∧ ∃ w2, (Builtin.delete_ #[42, 28] 0 #[.map (some pb), .int .u64 id]).run Try.prog w1 = .ok (.tuple #[]) w2 ∧ HA B w2 H.hb (fun j => if j = id then none else M j) (N - 1) k ∧ Ft B noX w1 w2) := fun w1 v k1 => by
    refine ⟨(k1.cells.1).trans (congrArg (fun x => some (Value.map x)) hpb), ?_⟩
    obtain ⟨hB2, hM2⟩ := k1.pmap (b := pb) hpb
    obtain ⟨w2, r1, r2, r3⟩ := hM2.drop Try.underlying42 Try.underlying28 id 0
    obtain ⟨q1, q2⟩ := k1.places (b := pb) hpb r3 r2 (dl_nodup hI.kp id)
    have hp2 := (hp.exempt (some n)).change (fv := v) hI.kg hG (trimR_tm (R.set s []))
    obtain ⟨c1, c2⟩ := hW.cut hI.kp hI.kg hmem hG (H' := { H with fv := v, G := chG H.G n g (trimR (R.set s [])), F := chF H.F n R (trimR (R.set s [])) }) rfl rfl
    obtain ⟨d1, d2⟩ := c1.out hI.kp (H' := { H with fv := v, P := dl H.P id, G := chG H.G n g (trimR (R.set s [])), F := chF H.F n R (trimR (R.set s [])) }) rfl rfl
    refine ⟨w2, r1, ⟨⟨{ H with fv := v, P := dl H.P id, G := chG H.G n g (trimR (R.set s [])), F := chF H.F n R (trimR (R.set s [])) }, rfl, q1, ⟨hp2.rng, hp2.tm, hp2.ne, hp2.srt, hp2.fre, hp2.fre'⟩, d1, fun j => ?_, ?_, hnx⟩⟩, q2⟩
    · rw [d2 j]
      by_cases hj : j = id
      · rw [if_pos hj, if_pos hj]
      · rw [if_neg hj, if_neg hj, c2 j hj, hM]
    · have := len_dl hkk
      show (dl H.P id).length = N - 1
      omega
  clear h hI hp hW hM hkp hkk hmem hG hs
  go_enter Try.func12, Try.ntmps12
  go_wp2_with fail
  refine Calls.mono HF.out ?_
  rintro e w1 ⟨rfl, hb1⟩
  have hb2 : Below w.heap.size w (w1.alloc (.cells #[.int .i64 n, .int .i64 (s : Int)] 57)) := hb1.alloc hb1.size _
  have HD2 : Hid _ := HD.out _ hb2
  clear HF HD
  go_wp2_with fail
  refine Calls.mono HD2.out ?_
  rintro e w3 ⟨rfl, ⟨v, hI3⟩, hft3⟩
  obtain ⟨c0, w4, r1, r2, r3⟩ := HE.out w3 v hI3
  have hfin := ((Ft.of (B := B) (X := noX) hb2).trans hft3).trans r3
  clear HD2 HE hI3 hft3 r3
  replace r2 : Hid _ := r2
  go_wp2
  go_ret
  exact ⟨rfl, r2.out, hfin⟩

set_option maxRecDepth 100000 in
theorem hdropno_any {B : Nat} {w : World} {hb : Nat} {M : Int → Option (List Int)} {N k : Nat} (h : HA B w hb M N k) (id : Int) (hm : M id = none) :
    Calls Try.prog 12 #[.pointer (some ⟨hb, 0, none⟩), .int .u64 id] w fun e w' => e = .returned (.int .i64 22) ∧ Below w.heap.size w w' := by
  obtain ⟨H, rfl, hI, hp, hW, hM, hlen, hnx⟩ := h.ex
  have hkp : lk H.P id = none := lk_none.2 (fun hk => (hW.rcd_key hI.kp hI.kg id).1 hk (by rw [hM, hm]))
  have HF : Hid _ := find_heap hI id
  rw [hkp] at HF
  simp only [Option.map_none, Option.getD_none, Option.isSome_none] at HF
  clear h hI hp hW hM hkp
  go_enter Try.func12, Try.ntmps12
  go_wp2_with fail
  refine Calls.mono HF.out ?_
  rintro e w1 ⟨rfl, hb1⟩
  have hb2 : Below w.heap.size w (w1.alloc (.cells #[.int .i64 0, .int .i64 0] 57)) := hb1.alloc hb1.size _
  clear HF
  go_wp2
  go_ret
  exact ⟨rfl, hb2⟩

set_option maxRecDepth 100000 in
theorem hlen_any {B : Nat} {w : World} {hb : Nat} {M : Int → Option (List Int)} {N k : Nat} (h : HA B w hb M N k) :
    Calls Try.prog 16 #[.pointer (some ⟨hb, 0, none⟩)] w fun e w' => e = .returned (.int .i64 (N : Int)) ∧ w' = w := by
  obtain ⟨H, rfl, hI, hp, hW, hM, hlen, hnx⟩ := h.ex
  obtain ⟨c0, -, -, -⟩ := hI.cells
  have HL : (Builtin.len_ #[42] 3 #[.map H.pm]).run Try.prog w = .ok (.int .i64 (N : Int)) w := by
    rcases hI.pl with ⟨e, e2⟩ | ⟨b, e, _, hMb⟩
    · rw [e, ← hlen, e2]; exact len_nilmap Try.underlying42 3 w
    · rw [e, ← hlen]; exact hMb.len Try.underlying42 3
  clear h hI hp hW hM hlen
  generalize H.pm = pm at *
  go_enter Try.func16, Try.ntmps16
  go_wp2
  go_ret
  exact ⟨rfl, rfl⟩
set_option maxRecDepth 100000 in
theorem hpages_any {B : Nat} {w : World} {hb : Nat} {M : Int → Option (List Int)} {N k : Nat} (h : HA B w hb M N k) :
    Calls Try.prog 17 #[.pointer (some ⟨hb, 0, none⟩)] w fun e w' => (∃ p : Nat, e = .returned (.int .i64 (p : Int)) ∧ p ≤ N) ∧ w' = w := by
  obtain ⟨H, rfl, hI, hp, hW, hM, hlen, hnx⟩ := h.ex
  obtain ⟨-, c1, -, -⟩ := hI.cells
  have hfew := pages_few hp hW hI.kg
  have HL : (Builtin.len_ #[43] 3 #[.map H.gm]).run Try.prog w = .ok (.int .i64 (H.G.length : Int)) w := by
    rcases hI.gl with ⟨e, e2⟩ | ⟨b, e, _, hMb⟩
    · rw [e, e2]; exact len_nilmap Try.underlying43 3 w
    · rw [e]; exact hMb.len Try.underlying43 3
  rw [hlen] at hfew
  clear h hI hp hW hM hlen
  generalize H.gm = pm at *
  generalize H.G.length = p at *
  go_enter Try.func17, Try.ntmps17
  go_wp2
  go_ret
  exact ⟨⟨p, rfl, hfew⟩, rfl⟩

end Go.Proofs.Ytmfoenhbldacfaa
