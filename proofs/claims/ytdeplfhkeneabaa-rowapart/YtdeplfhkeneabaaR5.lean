/- The walks of row's times, counted, whole and Take. -/
import Derived.Test.YtdeplfhkeneabaaR4
namespace Go.Proofs.Ytdeplfhkeneabaa
open Go.RowKit
set_option linter.unusedVariables false

/-- What a reader of m values tells. -/
def tmL (m : Nat) (b : List Int) : List Vl := if tkS m b = 0 then tkL m b else []
def tmN (m : Nat) (b : List Int) : Int := if tkS m b = 0 then (tkM m b : Int) else 0

theorem tkN_nn (b : List Int) : 0 ≤ tkN b := by
  unfold tkN
  split
  · split <;> omega
  · omega
theorem Rd.off {w : World} {ao : Option Addr} {n c : Nat} {bs : List Int} (h : Rd .u8 w ao n c bs) {m : Nat} (hm : m ≤ n) (ao' : Option Addr) (d : Nat) (hd : d = c - m) (ha : ∀ b o, ao = some ⟨b, o, none⟩ → m < n → ao' = some ⟨b, o + m, none⟩) (hn : ao' = none → ao = none) : Rd .u8 w ao' (n - m) d (bs.drop m) := by
  subst hd
  have h1 := h.len
  have h2 := h.cap
  have h3 := h.max
  refine ⟨by rw [List.length_drop, h1], by omega, by omega, fun e => by have := h.non (hn e); omega, fun hp => ?_⟩
  obtain ⟨b, o, e, hc⟩ := h.cells (by omega)
  refine ⟨b, o + m, ha b o e (by omega), fun i hi => ?_⟩
  have := hc (m + i) (by omega)
  rw [show o + m + i = o + (m + i) from by omega, this]
  simp only [nth]
  rw [List.getElem?_drop]

theorem add_off (b o m : Nat) : (⟨b, o, none⟩ : Addr).add m = ⟨b, o + m, none⟩ := by unfold Addr.add; split <;> simp_all
/-- A slice from m on. -/
theorem slice_off {w : World} {ao : Option Addr} {n c : Nat} {bs : List Int} (h : Rd .u8 w ao n c bs) {m : Nat} (hm : m ≤ n) :
    ∃ ao' p d, (∀ w', (Instr.slice 23 (.slice ao n c) (some (.int .i64 m)) none none).run Try.prog w' = .ok (.slice ao' p d) w') ∧ ∀ w', Rd .u8 w' ao n c bs → Rd .u8 w' ao' p d (bs.drop m) := by
  refine ⟨if c = m then ao else ao.map (·.add m), n - m, c - m, fun w' => ?_, fun w' h' => h'.off hm _ _ rfl (fun b o e hlt => ?_) (fun e => ?_)⟩
  · have hcap := h.cap
    go_simp
  · have := h'.cap
    rw [if_neg (by omega), e, Option.map_some, add_off]
  · split at e
    · exact e
    · simpa using e

theorem Cv.stored {y : World} {g : Nat} {x0 x1 x2 : Value} {k i : Int} {s : ByteArray} (e0 : y.cell? ⟨g, 0, none⟩ = some x0) (e1 : y.cell? ⟨g, 1, none⟩ = some x1) (e2 : y.cell? ⟨g, 2, none⟩ = some x2) :
    Cv (((y.setCell ⟨g, 0, none⟩ (.int .i64 k)).setCell ⟨g, 1, none⟩ (.int .i64 i)).setCell ⟨g, 2, none⟩ (.string s)) g 0 (k, i, s) :=
  ⟨by simp [go_sem, e0], by simp [go_sem, e1], by simp [go_sem, e2]⟩

set_option maxRecDepth 100000 in
set_option maxHeartbeats 1000000 in
theorem times1_any (ao : Option Addr) (n c : Nat) (bs : List Int) (w : World) (h : Rd .u8 w ao n c bs) (hu : U8 bs) (m g1 g2 : Nat) (hm : m ≤ 6) (hg1 : w.cell? ⟨g1, 0, none⟩ = some (.int .i64 m)) (hg2 : w.cell? ⟨g2, 0, none⟩ = some (.func (.func 20) #[] #[])) :
    Calls Try.prog 32 #[.slice ao n c, .pointer (some ⟨g1, 0, none⟩), .pointer (some ⟨g2, 0, none⟩)] w fun e w' => ∃ oo p q, e = .returned (.tuple #[.slice oo p q, .int .i64 (tmN m bs), .int .i64 (tkS m bs)]) ∧ RdV w' oo p q (tmL m bs) ∧ Below w.heap.size w w' := by
  have hlen := h.len
  have hcap := h.cap
  have hmax := h.max
  have HR : Hid (∀ w', Below w.heap.size w w' → Rd .u8 w' ao n c bs) := fun w' hb => h.later hb
  have HU : Hid (U8 bs) := hu
  have HL : Hid (bs.length = n) := hlen
  clear h hu hlen
  go_enter Try.func32, Try.ntmps32
  go_wp2
  go_loopw [7, 8, 13] (fun v a i wr => ∃ j : Nat, j ≤ m ∧ i = .int .i64 j ∧ a = .int .i64 (tkM j bs) ∧ Hid (tkS j bs = 0) ∧ Hid (OwnV w.heap.size wr v (tkL j bs)) ∧ Hid (Below w.heap.size w wr)) (fun _ _ i _ => m - (intOf i).toNat)
  case atStart => exact ⟨0, by omega, rfl, rfl, rfl, OwnV.nil _ _, Below.refl _ _⟩
  case round =>
    obtain ⟨j, hj, rfl, rfl, HS, HO, HB⟩ := hrel
    by_cases hlt : j < m
    · have hMn := (read_all HU.out j HS.out).2.2
      rw [HL.out] at hMn
      have hg2' := cell_later HB.out hg2
      obtain ⟨ao', p, d, hsl, hsr⟩ := slice_off (HR.out wr HB.out) hMn
      have HT : Hid (∀ w', Below w.heap.size w w' → _) := fun w' hb => take_any ao' p d (bs.drop (tkM j bs)) w' (hsr w' (HR.out w' hb)) (fun x hx => HU.out x (List.mem_of_mem_drop hx))
      clear hsr
      have hnn := tkN_nn (bs.drop (tkM j bs))
      have hMk : (tkM (j + 1) bs : Int) = (tkM j bs : Int) + tkN (bs.drop (tkM j bs)) := by rw [tkM]; omega
      have HV : Hid (tkL (j + 1) bs = tkL j bs ++ [tkV (bs.drop (tkM j bs))]) := rfl
      have HE : Hid (tkE (bs.drop (tkM j bs)) ≠ 0 → tkS m bs = tkE (bs.drop (tkM j bs))) := fun he => tkS_at HS.out hlt he
      have HE0 : Hid (tkE (bs.drop (tkM j bs)) = 0 → tkS (j + 1) bs = 0) := fun he => by rw [tkS, if_pos HS.out, he]
      have HN : Hid (tkE (bs.drop (tkM j bs)) = 0 → tkM (j + 1) bs ≤ n) := fun he => by
        have := (read_all HU.out (j + 1) (HE0.out he)).2.2
        rwa [HL.out] at this
      unfold tkR tkA at HT
      replace HV : Hid (tkL (j + 1) bs = tkL j bs ++ [(tkK (bs.drop (tkM j bs)), tkI (bs.drop (tkM j bs)), strOfNums (tkT (bs.drop (tkM j bs))))]) := HV
      generalize bs.drop (tkM j bs) = B at *
      generalize tkK B = kk at *
      generalize tkI B = ii at *
      generalize strOfNums (tkT B) = ss at *
      generalize tkN B = nn at *
      generalize tkE B = ee at *
      go_upto_region 5 with fail
      go_cut [9, 10, 11] (fun v9 v10 v11 w' => ∃ g, v9 = .pointer (some ⟨g, 0, none⟩) ∧ v10 = .int .i64 nn ∧ v11 = .int .i64 ee ∧ Cv w' g 0 (kk, ii, ss) ∧ Below wr.heap.size wr w')
      case first =>
        have hd : Below wr.heap.size wr wr.drew := (Below.refl _ _).drew
        have hda : Below wr.heap.size wr (wr.drew.alloc (.cells #[.int .i64 0, .int .i64 0, .string ⟨#[]⟩] 35)) := hd.alloc (Nat.le_refl _) _
        go_region_held (fun w' => w'.cell? ⟨g2, 0, none⟩ = some (.func (.func 20) #[] #[])) (first | exact cell_later hY hg2' | exact cell_later (hY.alloc hY.size _) hg2' | exact cell_later (((hY.setCell (Nat.le_refl _) _).setCell (Nat.le_refl _) _).setCell (Nat.le_refl _) _) hg2' | exact cell_later hda hg2' | exact cell_later hd hg2' | go_keep) (first
          | (go_at_call 20; refine Calls.mono (HT.out _ (Below.on HB.out hd)) ?_; rintro e y ⟨rfl, hby⟩; have hY := Below.on hd hby)
          | (go_at_call 20; refine Calls.mono (HT.out _ (Below.on HB.out hda)) ?_; rintro e y ⟨rfl, hby⟩; have hY := Below.on hda hby
             have z0 := hby.block wr.heap.size (by simp)
             have f0 : y.frozen? ⟨wr.heap.size, 0, none⟩ = false := by rw [World.frozen?_of_block z0]; simp [go_sem]
             have f1 : y.frozen? ⟨wr.heap.size, 1, none⟩ = false := by rw [World.frozen?_of_block z0]; simp [go_sem]
             have f2 : y.frozen? ⟨wr.heap.size, 2, none⟩ = false := by rw [World.frozen?_of_block z0]; simp [go_sem]
             have e0 : y.cell? ⟨wr.heap.size, 0, none⟩ = some (.int .i64 0) := by rw [World.cell?_of_block z0]; simp [go_sem]
             have e1 : y.cell? ⟨wr.heap.size, 1, none⟩ = some (.int .i64 0) := by rw [World.cell?_of_block z0]; simp [go_sem]
             have e2 : y.cell? ⟨wr.heap.size, 2, none⟩ = some (.string ⟨#[]⟩) := by rw [World.cell?_of_block z0]; simp [go_sem]))
        all_goals
          go_wp2_with fail
          go_meet
        · exact ⟨_, rfl, rfl, rfl, Cv.new y (kk, ii, ss), hY.alloc hY.size _⟩
        · exact ⟨_, rfl, rfl, rfl, Cv.stored e0 e1 e2, ((hY.setCell (Nat.le_refl _) _).setCell (Nat.le_refl _) _).setCell (Nat.le_refl _) _⟩
      case rest =>
        obtain ⟨g, rfl, rfl, rfl, hC, hY⟩ := hcut
        have hB := Below.on HB.out hY
        have hO := HO.out.later hY
        clear HT hsl HO hY hg2'
        by_cases he : ee = 0
        · subst he
          have hMk' := HN.out rfl
          have hS1 : Hid _ := HE0.out rfl
          clear HE HE0 HN HS
          obtain ⟨c0, c1, c2⟩ := hC
          go_wp2_with (first | (at_builtin; refine wpList_appV rfl (.tmp 27) (.tmp 29) rfl w.heap.size _ (tkL j bs) _ (kk, ii, ss) rfl rfl (hO.alloc _) (Cv.new _ (kk, ii, ss)) (by rw [tkL_len]; omega) (by have := hB.size; simp; omega) ?_) | fail)
          intro v' w4 hO4 hb4
          rw [← HV.out] at hO4
          have hB4 : Below w.heap.size w w4 := (hB.alloc hB.size _).trans hb4
          clear hO hb4 hB c0 c1 c2
          go_wp2
          go_roundw
          case rel => exact ⟨j + 1, by omega, by go_num, by rw [hMk], hS1, hO4, hB4⟩
          case measure => simp only [intOf]; omega
        · have g1 : (ee == 0) = false := by simpa using he
          have HF : Hid _ := HE.out he
          clear HE HE0 HN HS hO hC
          go_wp2
          refine bodyPost_ret (v := .tuple #[.slice none 0 0, .int .i64 0, .int .i64 ee]) (by simp [results, Try.results32]) rfl ⟨none, 0, 0, ?_, ?_, hB⟩
          · rw [tmN, HF.out, if_neg he]
          · rw [tmL, HF.out, if_neg he]; exact RdV.nil _
    · obtain rfl : j = m := by omega
      go_wp2
      obtain ⟨oo, q, hv, hr⟩ := HO.out.rd
      refine bodyPost_ret (v := .tuple #[.slice oo (tkL j bs).length q, .int .i64 (tkM j bs), .int .i64 0]) (by simp [results, Try.results32, hv]) rfl ⟨oo, (tkL j bs).length, q, ?_, ?_, HB.out⟩
      · rw [tmN, HS.out, if_pos rfl]
      · rw [tmL, HS.out, if_pos rfl]; exact hr

end Go.Proofs.Ytdeplfhkeneabaa
