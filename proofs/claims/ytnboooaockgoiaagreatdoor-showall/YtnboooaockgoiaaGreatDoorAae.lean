import Derived.Test.YtnboooaockgoiaaGreatDoorAad
import Derived.BigRegion
import Derived.Test.YtnboooaockgoiaaGreatDoorAaf
namespace Go.Proofs.YtnboooaockgoiaaGreatDoor
open Go.RowKit
set_option linter.unusedVariables false

/-- Members one behind the other behind a text. -/
def joP {α : Type} (sep : ByteArray) (g : ByteArray → α → ByteArray) (s0 : ByteArray) : List α → ByteArray
  | [] => s0
  | x :: r => r.foldl (fun s y => g (s ++ sep) y) (g s0 x)
theorem joP_snoc {α : Type} {sep s0 : ByteArray} {g : ByteArray → α → ByteArray} {l : List α} (h : l ≠ []) (y : α) : joP sep g s0 (l ++ [y]) = g (joP sep g s0 l ++ sep) y := by
  cases l with
  | nil => exact absurd rfl h
  | cons x r => simp only [List.cons_append, joP, List.foldl_append, List.foldl_cons, List.foldl_nil]
theorem joP_le {α : Type} {sep s0 : ByteArray} {g : ByteArray → α → ByteArray} (hg : ∀ s y, s.size ≤ (g s y).size) (l m : List α) : (joP sep g s0 l).size ≤ (joP sep g s0 (l ++ m)).size := by
  induction m generalizing l with
  | nil => rw [List.append_nil]; exact Nat.le_refl _
  | cons y m ih =>
    have h1 : (joP sep g s0 l).size ≤ (joP sep g s0 (l ++ [y])).size := by
      by_cases h : l = []
      · subst h; exact hg _ _
      · rw [joP_snoc h]
        refine Nat.le_trans ?_ (hg _ _)
        rw [ByteArray.size_append]; omega
    have h2 := ih (l ++ [y])
    rw [List.append_assoc] at h2
    exact Nat.le_trans h1 h2
theorem joP_take {α : Type} {sep s0 : ByteArray} {g : ByteArray → α → ByteArray} (hg : ∀ s y, s.size ≤ (g s y).size) (l : List α) (k : Nat) : (joP sep g s0 (l.take k)).size ≤ (joP sep g s0 l).size := by
  have := joP_le (sep := sep) (s0 := s0) hg (l.take k) (l.drop k)
  rw [List.take_append_drop] at this
  exact this
theorem joP_step {α : Type} {sep s0 : ByteArray} {g : ByteArray → α → ByteArray} {l : List α} {k : Nat} (hk : k < l.length) : joP sep g s0 (l.take (k + 1)) = if k = 0 then g s0 l[k] else g (joP sep g s0 (l.take k) ++ sep) l[k] := by
  rw [List.take_succ_eq_append_getElem hk]
  by_cases h : k = 0
  · subst h; rw [if_pos rfl, List.take_zero]; rfl
  · rw [if_neg h, joP_snoc]
    intro e
    have h2 : (l.take k).length = 0 := by rw [e]; rfl
    rw [List.length_take] at h2
    omega
theorem isEmpty_ne {t : ByteArray} (h : t ≠ ⟨#[]⟩) : t.toList.isEmpty = false := by
  cases hl : t.toList with
  | nil =>
    rw [ByteArray.toList_eq] at hl
    exact absurd (ByteArray.ext (Array.toList_inj.1 hl)) h
  | cons x l => rfl
def kiB (k : Int) : ByteArray := if k = 1 then ⟨#[105, 110, 116]⟩ else ⟨#[116, 101, 120, 116]⟩
def cdB (s : ByteArray) (c : Co) : ByteArray := if c.2.2 = ⟨#[]⟩ then ((s ++ c.1) ++ ⟨#[32]⟩) ++ kiB c.2.1 else ((((s ++ c.1) ++ ⟨#[32]⟩) ++ kiB c.2.1) ++ ⟨#[32, 114, 101, 102, 32]⟩) ++ c.2.2
theorem cdB_le (s : ByteArray) (c : Co) : s.size + c.1.size + c.2.2.size ≤ (cdB s c).size := by
  rw [cdB]
  split
  · rename_i h
    rw [h]
    simp only [ByteArray.size_append]
    show s.size + c.1.size + 0 ≤ _
    omega
  · simp only [ByteArray.size_append]; omega
theorem RowIs.col1 {Q : Nat → Prop} {w : World} {a : Option Addr} {n c : Nat} {l : List Co} (h : RowIs eCol Q w (.slice a n c) l) {k : Nat} (hk : k < l.length) : ∃ b o, a = some ⟨b, o, none⟩ ∧ w.cell? ⟨b, o + k * 3, none⟩ = some (.string l[k].1) ∧ w.cell? ⟨b, o + k * 3 + 1, none⟩ = some (.int .i64 l[k].2.1) ∧ w.cell? ⟨b, o + k * 3 + 2, none⟩ = some (.string l[k].2.2) := by
  obtain ⟨ao, n0, c0, hv, hl, _, _, hx⟩ := h
  cases hv
  obtain ⟨b, o, ha, _, hi⟩ := hx (by omega)
  obtain ⟨cs, hcs, _, hc⟩ := hi k hk
  have hcs' : cs = [.string l[k].1, .int .i64 l[k].2.1, .string l[k].2.2] := hcs
  subst hcs'
  exact ⟨b, o, ha, hc 0 (show 0 < 3 by decide), hc 1 (show 1 < 3 by decide), hc 2 (show 2 < 3 by decide)⟩
def taT (m : Sm) : ByteArray := joP ⟨#[44, 32]⟩ cdB ((⟨#[99, 114, 101, 97, 116, 101, 32, 116, 97, 98, 108, 101, 32]⟩ ++ m.name) ++ ⟨#[40]⟩) m.cols ++ ⟨#[41]⟩

set_option maxRecDepth 100000 in
set_option maxHeartbeats 8000000 in
theorem fShow_table {m : Sm} {s : Sv} {Q : Nat → Prop} {w : World} (hk : m.kind = 1) (hc : ∀ c ∈ m.cols, c.2.1 = 1 ∨ c.2.1 = 2) (hz : (taT m).size ≤ 900000) (h : IsS Q w m s) :
    Calls Tryz.prog 15 #[stV s] w fun e w' => e = .returned (.string (taT m)) ∧ Below w.heap.size w w' := by
  have hnum := h.co.num
  have HK : Hid (∀ k (hk : k < m.cols.length), ∀ w1, Below w.heap.size w w1 → ∃ (b o : Nat) (cn cr : ByteArray) (ck : Int), s.co.1 = some ⟨b, o, none⟩ ∧ b < w.heap.size ∧ (w1.cell? ⟨b, o + k * 3, none⟩ = some (.string cn) ∧ w1.cell? ⟨b, o + k * 3 + 1, none⟩ = some (.int .i64 ck) ∧ w1.cell? ⟨b, o + k * 3 + 2, none⟩ = some (.string cr)) ∧ (ck = 1 ∨ ck = 2) ∧
      (k = 0 → cdB ((⟨#[99, 114, 101, 97, 116, 101, 32, 116, 97, 98, 108, 101, 32]⟩ ++ m.name) ++ ⟨#[40]⟩) (cn, ck, cr) = joP ⟨#[44, 32]⟩ cdB ((⟨#[99, 114, 101, 97, 116, 101, 32, 116, 97, 98, 108, 101, 32]⟩ ++ m.name) ++ ⟨#[40]⟩) (m.cols.take (k + 1))) ∧ (k ≠ 0 → cdB (joP ⟨#[44, 32]⟩ cdB ((⟨#[99, 114, 101, 97, 116, 101, 32, 116, 97, 98, 108, 101, 32]⟩ ++ m.name) ++ ⟨#[40]⟩) (m.cols.take k) ++ ⟨#[44, 32]⟩) (cn, ck, cr) = joP ⟨#[44, 32]⟩ cdB ((⟨#[99, 114, 101, 97, 116, 101, 32, 116, 97, 98, 108, 101, 32]⟩ ++ m.name) ++ ⟨#[40]⟩) (m.cols.take (k + 1))) ∧ (joP ⟨#[44, 32]⟩ cdB ((⟨#[99, 114, 101, 97, 116, 101, 32, 116, 97, 98, 108, 101, 32]⟩ ++ m.name) ++ ⟨#[40]⟩) (m.cols.take (k + 1))).size ≤ 900000 ∧ cn.size ≤ 900000 ∧ cr.size ≤ 900000) := hid fun k hk w1 hb => by
    obtain ⟨b, o, e1, q0, q1, q2⟩ := RowIs.col1 h.co hk
    have hst := joP_step (sep := ⟨#[44, 32]⟩) (s0 := (⟨#[99, 114, 101, 97, 116, 101, 32, 116, 97, 98, 108, 101, 32]⟩ ++ m.name) ++ ⟨#[40]⟩) (g := cdB) hk
    have hle : (joP ⟨#[44, 32]⟩ cdB ((⟨#[99, 114, 101, 97, 116, 101, 32, 116, 97, 98, 108, 101, 32]⟩ ++ m.name) ++ ⟨#[40]⟩) (m.cols.take (k + 1))).size ≤ 900000 := by
      have h1 := joP_take (sep := ⟨#[44, 32]⟩) (s0 := (⟨#[99, 114, 101, 97, 116, 101, 32, 116, 97, 98, 108, 101, 32]⟩ ++ m.name) ++ ⟨#[40]⟩) (g := cdB) (fun s y => by have := cdB_le s y; omega) m.cols (k + 1)
      rw [taT, ByteArray.size_append] at hz
      omega
    have hcs : m.cols[k].1.size ≤ 900000 ∧ m.cols[k].2.2.size ≤ 900000 := by
      rw [hst] at hle
      split at hle
      · have := cdB_le ((⟨#[99, 114, 101, 97, 116, 101, 32, 116, 97, 98, 108, 101, 32]⟩ ++ m.name) ++ ⟨#[40]⟩) m.cols[k]; omega
      · have := cdB_le (joP ⟨#[44, 32]⟩ cdB ((⟨#[99, 114, 101, 97, 116, 101, 32, 116, 97, 98, 108, 101, 32]⟩ ++ m.name) ++ ⟨#[40]⟩) (m.cols.take k) ++ ⟨#[44, 32]⟩) m.cols[k]; omega
    refine ⟨b, o, m.cols[k].1, m.cols[k].2.2, m.cols[k].2.1, e1, World.block_lt_of_cell? _ _ q0, ⟨cell_later hb q0, cell_later hb q1, cell_later hb q2⟩, hc _ (List.getElem_mem _), fun e => ?_, fun e => ?_, hle, hcs.1, hcs.2⟩
    · rw [hst, if_pos e]
    · rw [hst, if_neg e]
  have HZ : Hid (joP ⟨#[44, 32]⟩ cdB ((⟨#[99, 114, 101, 97, 116, 101, 32, 116, 97, 98, 108, 101, 32]⟩ ++ m.name) ++ ⟨#[40]⟩) (m.cols.take m.cols.length) ++ ⟨#[41]⟩ = taT m) := hid (by rw [List.take_length]; rfl)
  have hzn : m.name.size ≤ 900000 := by
    have h1 := joP_take (sep := ⟨#[44, 32]⟩) (s0 := (⟨#[99, 114, 101, 97, 116, 101, 32, 116, 97, 98, 108, 101, 32]⟩ ++ m.name) ++ ⟨#[40]⟩) (g := cdB) (fun s y => by have := cdB_le s y; omega) m.cols 0
    rw [taT, ByteArray.size_append] at hz
    have h2 : (joP ⟨#[44, 32]⟩ cdB ((⟨#[99, 114, 101, 97, 116, 101, 32, 116, 97, 98, 108, 101, 32]⟩ ++ m.name) ++ ⟨#[40]⟩) (m.cols.take 0)).size = ((⟨#[99, 114, 101, 97, 116, 101, 32, 116, 97, 98, 108, 101, 32]⟩ ++ m.name) ++ ⟨#[40]⟩).size := rfl
    rw [h2, ByteArray.size_append, ByteArray.size_append] at h1
    omega
  have e0 := h.k.trans hk
  have e2 := h.nm
  rw [← e2] at HK HZ hzn
  generalize m.cols.length = N at *
  generalize taT m = RR at *
  obtain ⟨hn1, hn2, hn3⟩ := hnum
  clear h hk hc hz e2
  obtain ⟨k, tb, nm, ⟨coa, con, coc⟩, ⟨taa, tan, tac⟩, ⟨vaa, van, vac⟩, ⟨ita, itn, itc⟩, jn, ⟨ona, onn, onc⟩, ⟨wha, whn, whc⟩, ⟨oda, odn, odc⟩, ds, ⟨inna, innn, innc⟩⟩ := s
  simp only at e0 hn1 hn2 hn3 HK HZ hzn
  subst e0 hn1
  have hz0 : ((⟨#[99, 114, 101, 97, 116, 101, 32, 116, 97, 98, 108, 101, 32]⟩ ++ nm) ++ ⟨#[40]⟩).size ≤ 1000000 := by
    rw [ByteArray.size_append, ByteArray.size_append, show (⟨#[99, 114, 101, 97, 116, 101, 32, 116, 97, 98, 108, 101, 32]⟩ : ByteArray).size = 13 from rfl, show (⟨#[40]⟩ : ByteArray).size = 1 from rfl]; omega
  unfold stV
  have bB : Bs (w.alloc (.cells #[.int .i64 1, .string tb, .string nm, .slice coa con coc, .slice taa tan tac, .slice vaa van vac, .slice ita itn itc, .string jn, .slice ona onn onc, .slice wha whn whc, .slice oda odn odc, .bool ds, .slice inna innn innc] 48)) w.heap.size ⟨1, tb, nm, (coa, con, coc), (taa, tan, tac), (vaa, van, vac), (ita, itn, itc), jn, (ona, onn, onc), (wha, whn, whc), (oda, odn, odc), ds, (inna, innn, innc)⟩ := Bs.new w ⟨1, tb, nm, (coa, con, coc), (taa, tan, tac), (vaa, van, vac), (ita, itn, itc), jn, (ona, onn, onc), (wha, whn, whc), (oda, odn, odc), ds, (inna, innn, innc)⟩
  have hB2 := bal (Below.refl _ w) (.cells #[.int .i64 1, .string tb, .string nm, .slice coa con coc, .slice taa tan tac, .slice vaa van vac, .slice ita itn itc, .string jn, .slice ona onn onc, .slice wha whn whc, .slice oda odn odc, .bool ds, .slice inna innn innc] 48)
  simp only
  go_enter Tryz.func15, Tryz.ntmps15
  go_wp2
  generalize w.alloc (.cells #[.int .i64 1, .string tb, .string nm, .slice coa con coc, .slice taa tan tac, .slice vaa van vac, .slice ita itn itc, .string jn, .slice ona onn onc, .slice wha whn whc, .slice oda odn odc, .bool ds, .slice inna innn innc] 48) = W at *
  have HB2 : Hid (∀ w', Below W.heap.size W w' → Below w.heap.size w w') := hid fun w' hb => Below.on hB2 hb
  clear hB2
  generalize hqa : w.heap.size = qa at *
  go_loopw [3, 4] (fun o i wr => ∃ (k : Nat) (S : ByteArray), k ≤ con ∧ o = .string S ∧ i = .int .i64 k ∧ S.size ≤ 1000000 ∧ Hid (S = joP ⟨#[44, 32]⟩ cdB ((⟨#[99, 114, 101, 97, 116, 101, 32, 116, 97, 98, 108, 101, 32]⟩ ++ nm) ++ ⟨#[40]⟩) (m.cols.take k)) ∧ Below W.heap.size W wr) (fun _ i _ => con - (intOf i).toNat)
  case atStart => exact ⟨0, _, Nat.zero_le _, rfl, rfl, hz0, hid rfl, Below.refl _ _⟩
  case round =>
    obtain ⟨k, S, hk, rfl, rfl, hzS, HS, hb⟩ := hrel
    by_cases hlt : k < con
    · obtain ⟨b, o, cn, cr, ck, rfl, hbl, ⟨q0, q1, q2⟩, hck, hn0, hn1, hzk, hzc, hzr⟩ := HK.out k hlt wr (HB2.out _ hb)
      have HN : Hid (cdB (if k = 0 then S else S ++ ⟨#[44, 32]⟩) (cn, ck, cr) = joP ⟨#[44, 32]⟩ cdB ((⟨#[99, 114, 101, 97, 116, 101, 32, 116, 97, 98, 108, 101, 32]⟩ ++ nm) ++ ⟨#[40]⟩) (m.cols.take (k + 1))) := hid (by
        by_cases h0 : k = 0
        · rw [if_pos h0, HS.out]
          subst h0
          exact hn0 rfl
        · rw [if_neg h0, HS.out]
          exact hn1 h0)
      have c3 : wr.cell? ⟨qa, 3, none⟩ = some (.slice (some ⟨b, o, none⟩) con coc) := (bB.later hb).cells.2.2.2.1
      have hC : Below wr.heap.size wr wr.drew := (Below.refl _ wr).drew
      clear hn0 hn1 HS HK bB HZ
      by_cases h0 : k = 0
      · rw [if_pos h0] at HN
        subst h0
        simp only [Nat.zero_mul, Nat.add_zero] at q0 q1 q2
        have HKs : Hid (∀ w', Below wr.heap.size wr w' → w'.cell? ⟨qa, 3, none⟩ = some (.slice (some ⟨b, o, none⟩) con coc) ∧ w'.cell? ⟨b, o, none⟩ = some (.string cn) ∧ w'.cell? ⟨b, o + 1, none⟩ = some (.int .i64 ck) ∧ w'.cell? ⟨b, o + 2, none⟩ = some (.string cr)) := hid fun w' hb' => ⟨cell_later hb' c3, cell_later hb' q0, cell_later hb' q1, cell_later hb' q2⟩
        have i1 : (0 : Int) < (con : Int) := by omega
        have k0 : ¬ 9223372036854775807 < S.size := by omega
        have k1 : ¬ 9223372036854775807 < S.size + cn.size := by omega
        have k2 : ¬ 9223372036854775807 < S.size + cn.size + 1 := by omega
        have k3 : ¬ 9223372036854775807 < S.size + cn.size + 1 + 3 := by omega
        have k4 : ¬ 9223372036854775807 < S.size + cn.size + 1 + 4 := by omega
        have k5 : ¬ 9223372036854775807 < S.size + cn.size + 1 + 3 + 5 := by omega
        have k6 : ¬ 9223372036854775807 < S.size + cn.size + 1 + 4 + 5 := by omega
        have k7 : ¬ 9223372036854775807 < S.size + cn.size + 1 + 3 + 5 + cr.size := by omega
        have k8 : ¬ 9223372036854775807 < S.size + cn.size + 1 + 4 + 5 + cr.size := by omega
        rcases hck with rfl | rfl
        · go_upto_region 9 with fail
          obtain ⟨z0, z1, z2, z3⟩ := HKs.out _ (bal (Below.refl _ wr) (.cells #[.string ⟨#[105, 110, 116]⟩, .string ⟨#[116, 101, 120, 116]⟩] 9)).drew
          obtain ⟨y0, y1, y2, y3⟩ := HKs.out _ hC
          go_region
          all_goals
            have hE2 : Hid (cdB S (cn, 1, cr) = if cr = ⟨#[]⟩ then ((S ++ cn) ++ ⟨#[32]⟩) ++ ⟨#[105, 110, 116]⟩ else ((((S ++ cn) ++ ⟨#[32]⟩) ++ ⟨#[105, 110, 116]⟩) ++ ⟨#[32, 114, 101, 102, 32]⟩) ++ cr) := hid rfl
            by_cases hr : cr = ⟨#[]⟩
            · rw [if_pos hr] at hE2
              subst hr
              go_wp2
              go_roundw
              case rel => exact ⟨1, _, by omega, rfl, by go_num, by rw [← hE2.out, HN.out]; omega, hid (by rw [← hE2.out]; exact HN.out), Below.on hb (by first | exact bal hC _ | exact (bal (Below.refl _ wr) _).drew | exact bal (Below.refl _ wr) _)⟩
              case measure => simp only [intOf]; omega
            · rw [if_neg hr] at hE2
              have hi := isEmpty_ne hr
              clear hr
              go_wp2
              go_roundw
              case rel => exact ⟨1, _, by omega, rfl, by go_num, by rw [← hE2.out, HN.out]; omega, hid (by rw [← hE2.out]; exact HN.out), Below.on hb (by first | exact bal hC _ | exact (bal (Below.refl _ wr) _).drew | exact bal (Below.refl _ wr) _)⟩
              case measure => simp only [intOf]; omega
        · go_upto_region 9 with fail
          obtain ⟨z0, z1, z2, z3⟩ := HKs.out _ (bal (Below.refl _ wr) (.cells #[.string ⟨#[105, 110, 116]⟩, .string ⟨#[116, 101, 120, 116]⟩] 9)).drew
          obtain ⟨y0, y1, y2, y3⟩ := HKs.out _ hC
          go_region
          all_goals
            have hE2 : Hid (cdB S (cn, 2, cr) = if cr = ⟨#[]⟩ then ((S ++ cn) ++ ⟨#[32]⟩) ++ ⟨#[116, 101, 120, 116]⟩ else ((((S ++ cn) ++ ⟨#[32]⟩) ++ ⟨#[116, 101, 120, 116]⟩) ++ ⟨#[32, 114, 101, 102, 32]⟩) ++ cr) := hid rfl
            by_cases hr : cr = ⟨#[]⟩
            · rw [if_pos hr] at hE2
              subst hr
              go_wp2
              go_roundw
              case rel => exact ⟨1, _, by omega, rfl, by go_num, by rw [← hE2.out, HN.out]; omega, hid (by rw [← hE2.out]; exact HN.out), Below.on hb (by first | exact bal hC _ | exact (bal (Below.refl _ wr) _).drew | exact bal (Below.refl _ wr) _)⟩
              case measure => simp only [intOf]; omega
            · rw [if_neg hr] at hE2
              have hi := isEmpty_ne hr
              clear hr
              go_wp2
              go_roundw
              case rel => exact ⟨1, _, by omega, rfl, by go_num, by rw [← hE2.out, HN.out]; omega, hid (by rw [← hE2.out]; exact HN.out), Below.on hb (by first | exact bal hC _ | exact (bal (Below.refl _ wr) _).drew | exact bal (Below.refl _ wr) _)⟩
              case measure => simp only [intOf]; omega
      · rw [if_neg h0] at HN
        have g0 : decide ((0 : Int) < (k : Int)) = true := by simp; omega
        have i0 : (0 : Int) ≤ (k : Int) := by omega
        have i1 : (k : Int) < (con : Int) := by omega
        have HKs : Hid (∀ w', Below wr.heap.size wr w' → w'.cell? ⟨qa, 3, none⟩ = some (.slice (some ⟨b, o, none⟩) con coc) ∧ w'.cell? ⟨b, o + k * 3, none⟩ = some (.string cn) ∧ w'.cell? ⟨b, o + k * 3 + 1, none⟩ = some (.int .i64 ck) ∧ w'.cell? ⟨b, o + k * 3 + 2, none⟩ = some (.string cr)) := hid fun w' hb' => ⟨cell_later hb' c3, cell_later hb' q0, cell_later hb' q1, cell_later hb' q2⟩
        have k0 : ¬ 9223372036854775807 < S.size + 2 := by omega
        have k1 : ¬ 9223372036854775807 < S.size + 2 + cn.size := by omega
        have k2 : ¬ 9223372036854775807 < S.size + 2 + cn.size + 1 := by omega
        have k3 : ¬ 9223372036854775807 < S.size + 2 + cn.size + 1 + 3 := by omega
        have k4 : ¬ 9223372036854775807 < S.size + 2 + cn.size + 1 + 4 := by omega
        have k5 : ¬ 9223372036854775807 < S.size + 2 + cn.size + 1 + 3 + 5 := by omega
        have k6 : ¬ 9223372036854775807 < S.size + 2 + cn.size + 1 + 4 + 5 := by omega
        have k7 : ¬ 9223372036854775807 < S.size + 2 + cn.size + 1 + 3 + 5 + cr.size := by omega
        have k8 : ¬ 9223372036854775807 < S.size + 2 + cn.size + 1 + 4 + 5 + cr.size := by omega
        rcases hck with rfl | rfl
        · go_upto_region 9 with fail
          obtain ⟨z0, z1, z2, z3⟩ := HKs.out _ (bal (Below.refl _ wr) (.cells #[.string ⟨#[105, 110, 116]⟩, .string ⟨#[116, 101, 120, 116]⟩] 9)).drew
          obtain ⟨y0, y1, y2, y3⟩ := HKs.out _ hC
          go_region
          all_goals
            have hE2 : Hid (cdB (S ++ ⟨#[44, 32]⟩) (cn, 1, cr) = if cr = ⟨#[]⟩ then (((S ++ ⟨#[44, 32]⟩) ++ cn) ++ ⟨#[32]⟩) ++ ⟨#[105, 110, 116]⟩ else (((((S ++ ⟨#[44, 32]⟩) ++ cn) ++ ⟨#[32]⟩) ++ ⟨#[105, 110, 116]⟩) ++ ⟨#[32, 114, 101, 102, 32]⟩) ++ cr) := hid rfl
            by_cases hr : cr = ⟨#[]⟩
            · rw [if_pos hr] at hE2
              subst hr
              go_wp2
              go_roundw
              case rel => exact ⟨k + 1, _, by omega, rfl, by go_num, by rw [← hE2.out, HN.out]; omega, hid (by rw [← hE2.out]; exact HN.out), Below.on hb (by first | exact bal hC _ | exact (bal (Below.refl _ wr) _).drew | exact bal (Below.refl _ wr) _)⟩
              case measure => simp only [intOf]; omega
            · rw [if_neg hr] at hE2
              have hi := isEmpty_ne hr
              clear hr
              go_wp2
              go_roundw
              case rel => exact ⟨k + 1, _, by omega, rfl, by go_num, by rw [← hE2.out, HN.out]; omega, hid (by rw [← hE2.out]; exact HN.out), Below.on hb (by first | exact bal hC _ | exact (bal (Below.refl _ wr) _).drew | exact bal (Below.refl _ wr) _)⟩
              case measure => simp only [intOf]; omega
        · go_upto_region 9 with fail
          obtain ⟨z0, z1, z2, z3⟩ := HKs.out _ (bal (Below.refl _ wr) (.cells #[.string ⟨#[105, 110, 116]⟩, .string ⟨#[116, 101, 120, 116]⟩] 9)).drew
          obtain ⟨y0, y1, y2, y3⟩ := HKs.out _ hC
          go_region
          all_goals
            have hE2 : Hid (cdB (S ++ ⟨#[44, 32]⟩) (cn, 2, cr) = if cr = ⟨#[]⟩ then (((S ++ ⟨#[44, 32]⟩) ++ cn) ++ ⟨#[32]⟩) ++ ⟨#[116, 101, 120, 116]⟩ else (((((S ++ ⟨#[44, 32]⟩) ++ cn) ++ ⟨#[32]⟩) ++ ⟨#[116, 101, 120, 116]⟩) ++ ⟨#[32, 114, 101, 102, 32]⟩) ++ cr) := hid rfl
            by_cases hr : cr = ⟨#[]⟩
            · rw [if_pos hr] at hE2
              subst hr
              go_wp2
              go_roundw
              case rel => exact ⟨k + 1, _, by omega, rfl, by go_num, by rw [← hE2.out, HN.out]; omega, hid (by rw [← hE2.out]; exact HN.out), Below.on hb (by first | exact bal hC _ | exact (bal (Below.refl _ wr) _).drew | exact bal (Below.refl _ wr) _)⟩
              case measure => simp only [intOf]; omega
            · rw [if_neg hr] at hE2
              have hi := isEmpty_ne hr
              clear hr
              go_wp2
              go_roundw
              case rel => exact ⟨k + 1, _, by omega, rfl, by go_num, by rw [← hE2.out, HN.out]; omega, hid (by rw [← hE2.out]; exact HN.out), Below.on hb (by first | exact bal hC _ | exact (bal (Below.refl _ wr) _).drew | exact bal (Below.refl _ wr) _)⟩
              case measure => simp only [intOf]; omega
    · obtain rfl : k = con := by omega
      have E : Hid (S ++ ⟨#[41]⟩ = RR) := hid (by rw [HS.out]; exact HZ.out)
      have c3 : wr.cell? ⟨qa, 3, none⟩ = some (.slice coa k coc) := (bB.later hb).cells.2.2.2.1
      clear HK HS HZ bB
      go_wp2
      go_ret
      exact ⟨by rw [E.out]; rfl, by rw [hqa]; exact HB2.out _ hb⟩
end Go.Proofs.YtnboooaockgoiaaGreatDoor
namespace Go.Proofs.YtnboooaockgoiaaGreatDoor
open Go.RowKit
set_option linter.unusedVariables false

theorem below_grows {B : Nat} {a w w' : World} {row : Option Nat} (h : Below B a w) (hB : B ≤ w.heap.size) (hg : w.grownBy w' row) (hrow : ∀ k, row = some k → B ≤ k) : Below B a w' :=
  h.trans ⟨hg.os, hg.tape, hg.output, hg.size, fun i hi => hg.block i (by omega) fun e => by have := hrow i e.symm; omega⟩
/-- The cells of a column among those of a kind. -/
def itC (x : It) : List Value := [.int .i64 x.1, .string x.2.1, .string x.2.2]
def ofK (C : Cl2) (kind : Int) : List It := (C.filter fun x => decide (x.2 = kind)).map Prod.fst
theorem ofK_step {C : Cl2} {kind : Int} {k : Nat} (hk : k < C.length) : ofK (C.take (k + 1)) kind = ofK (C.take k) kind ++ if C[k].2 = kind then [C[k].1] else [] := by
  rw [ofK, ofK, List.take_succ_eq_append_getElem hk, List.filter_append, List.map_append]
  congr 1
  by_cases h : C[k].2 = kind <;> simp [h]
theorem ofK_len (C : Cl2) (kind : Int) : (ofK C kind).length ≤ C.length := by rw [ofK, List.length_map]; exact List.length_filter_le _ _
theorem ofK_mem {C : Cl2} {kind : Int} {x : It} (h : x ∈ ofK C kind) : ∃ y ∈ C, y.2 = kind ∧ y.1 = x := by
  rw [ofK, List.mem_map] at h
  obtain ⟨y, hy, e⟩ := h
  rw [List.mem_filter] at hy
  exact ⟨y, hy.1, by simpa using hy.2, e⟩
/-- A column of a kind among some; its table is told, or needs not be. -/
def ColOK (C : Cl2) (kind : Int) (tb nm : ByteArray) : Prop := ∃ x ∈ C, x.2 = kind ∧ nm = x.1.2.2 ∧ (tb = x.1.2.1 ∨ (tb = ⟨#[]⟩ ∧ cnt C nm = 1))

set_option maxRecDepth 100000 in
set_option maxHeartbeats 4000000 in
theorem col_any {g r : Nat} {w : World} (h : Pk w g r) {C : Cl2} {a a2 : Option Addr} {n c n2 c2 : Nat} (hc : RowIs eItem (fun b => b ≠ g) w (.slice a n c) (C.map Prod.fst)) (hk : RowIs eInt (fun b => b ≠ g) w (.slice a2 n2 c2) (C.map Prod.snd)) (hn : C.length ≤ 100) (kind : Int) (hx : ∃ x ∈ C, x.2 = kind) :
    Calls Tryz.prog 20 #[.pointer (some ⟨g, 0, none⟩), .slice a n c, .slice a2 n2 c2, .int .i64 kind] w fun e w' => ∃ tb nm r', e = .returned (.tuple #[exV 2 (0, 0, ⟨#[]⟩, tb, nm) (.slice none 0 0), .bool true]) ∧ ColOK C kind tb nm ∧ r' ≤ r ∧ Pk w' g r' ∧ But g w w' := by
  have hgl := h.lt
  have hl1 : n = C.length := by obtain ⟨ao, n', c', hv, hl, _⟩ := hc; cases hv; rw [← hl, List.length_map]
  have hl2 : n2 = C.length := by obtain ⟨ao, n', c', hv, hl, _⟩ := hk; cases hv; rw [← hl, List.length_map]
  subst hl1
  obtain rfl : C.length = n2 := hl2.symm
  have HK : Hid (∀ k (hk : k < C.length), ∃ b o b2 o2 x, a = some ⟨b, o, none⟩ ∧ a2 = some ⟨b2, o2, none⟩ ∧ b < w.heap.size ∧ b2 < w.heap.size ∧ C[k].1 = x ∧ w.cell? ⟨b2, o2 + k, none⟩ = some (.int .i64 C[k].2) ∧ (w.cell? ⟨b, o + k * 3, none⟩ = some (.int .i64 x.1) ∧ w.cell? ⟨b, o + k * 3 + 1, none⟩ = some (.string x.2.1) ∧ w.cell? ⟨b, o + k * 3 + 2, none⟩ = some (.string x.2.2))) := hid fun k hkk => by
    have h1 : k < (C.map Prod.fst).length := by rw [List.length_map]; omega
    have h2 : k < (C.map Prod.snd).length := by rw [List.length_map]; omega
    obtain ⟨b, o, ha, _, q0, q1, q2⟩ := hc.item1 h1
    obtain ⟨b2, o2, ha2, _, q3⟩ := hk.int1 h2
    rw [List.getElem_map] at q0 q1 q2 q3
    exact ⟨b, o, b2, o2, _, ha, ha2, World.block_lt_of_cell? _ _ q0, World.block_lt_of_cell? _ _ q3, rfl, q3, q0, q1, q2⟩
  have HO : Hid (∀ nm w', But g w w' → Calls Tryz.prog 42 #[.slice a C.length c, .string nm] w' fun e w'' => e = .returned (.bool (decide (cnt C nm = 1))) ∧ w'' = w') := hid fun nm w' hb => once_any (hc.keep (by decide) fun b hq hlt => hb.block b hlt hq) hn nm
  have b0 : Be (w.alloc zE) w.heap.size 0 nilP (.slice none 0 0) := Be.new w 0 nilP (.slice none 0 0)
  have HX : Hid (ofK C kind ≠ []) := hid (by
    obtain ⟨x, hm, e⟩ := hx
    intro he
    have : x.1 ∈ ofK C kind := by rw [ofK, List.mem_map]; exact ⟨x, List.mem_filter.2 ⟨hm, by simpa using e⟩, rfl⟩
    rw [he] at this
    cases this)
  have HP0 : Hid _ := hid h
  have hB0 : Below w.heap.size w (w.alloc zE) := bal (Below.refl _ _) _
  have hp0 := h.alloc zE
  clear h hc hk hx
  go_enter Tryz.func20, Tryz.ntmps20
  go_wp2
  generalize hW : w.alloc (.cells #[.int .i64 0, .int .i64 0, .int .i64 0, .string ⟨#[]⟩, .string ⟨#[]⟩, .string ⟨#[]⟩, .slice none 0 0] 43) = W at *
  have hWs : W.heap.size = w.heap.size + 1 := by rw [← hW]; simp
  have hW0 : W.ownsRow (w.heap.size + 1) 64 3 (.slice none 0 0) 0 [] := ⟨rfl, .inl ⟨rfl, rfl⟩⟩
  clear hW
  go_loopw [10, 11] (fun v i wr => ∃ (k : Nat) (css : List (List Value)), k ≤ C.length ∧ i = .int .i64 k ∧ OwnR 64 3 (w.heap.size + 1) wr v css ∧ css.length ≤ 100 ∧ Hid (css = (ofK (C.take k) kind).map itC) ∧ Below W.heap.size W wr) (fun _ i _ => C.length - (intOf i).toNat)
  case atStart => exact ⟨0, [], Nat.zero_le _, rfl, ⟨by simp, hW0⟩, by simp, hid rfl, Below.refl _ _⟩
  case round =>
    obtain ⟨k, css, hk, rfl, ho, hcl, HC, hb⟩ := hrel
    by_cases hlt : k < C.length
    · obtain ⟨b, o, b2, o2, x, rfl, rfl, hbl, hbl2, hx, q3, q0, q1, q2⟩ := HK.out k hlt
      have hbw : Below w.heap.size w wr := Below.on hB0 hb
      replace q0 := cell_later hbw q0
      replace q1 := cell_later hbw q1
      replace q2 := cell_later hbw q2
      replace q3 := cell_later hbw q3
      have hst := ofK_step (kind := kind) hlt
      have hle := ofK_len (C.take (k + 1)) kind
      rw [List.length_take] at hle
      have i0 : (0 : Int) ≤ (k : Int) := by omega
      have i1 : (k : Int) < (C.length : Int) := by omega
      obtain ⟨x0, x1, x2⟩ := x
      simp only at q0 q1 q2
      by_cases hxk : C[k].2 = kind
      · rw [if_pos hxk, hx] at hst
        rw [hxk] at q3
        have HS : Hid _ := hid hst
        have ho2 := ho.alloc (.cells #[.int .i64 x0, .string x1, .string x2] 64)
        have hb2 := bal hb (.cells #[.int .i64 x0, .string x1, .string x2] 64)
        have hblk := ho.blk
        rw [hst, List.length_append] at hle
        clear hst HK hx hxk ho
        go_wp2_with (first | (at_builtin; go_must (refine wpList_appR Tryz.underlying26 Tryz.infoTItem rfl (by decide) (by decide) rfl (.tmp 32) (.tmp 37) rfl _ css wr.heap.size [.int .i64 x0, .string x1, .string x2] rfl rfl ho2 rfl (by simp [Value.oneCell']) ?_ (by omega) (by have := hb2.size; omega) ?_)) | fail)
        · intro j hj
          have hj' : j < 3 := hj
          match j, hj' with
          | 0, _ => exact cell_new wr _ _ _ 0
          | 1, _ => exact cell_new wr _ _ _ 1
          | 2, _ => exact cell_new wr _ _ _ 2
        · intro v' w6 hO6 hg6 hown
          have hb6 : Below W.heap.size W w6 := below_grows hb2 hb2.size hg6 fun k e => by have := (hblk k e).1; omega
          have HN : Hid (css ++ [[.int .i64 x0, .string x1, .string x2]] = (ofK (C.take (k + 1)) kind).map itC) := hid (by rw [HS.out, List.map_append, ← HC.out]; rfl)
          have hl6 : (css ++ [[Value.int .i64 x0, .string x1, .string x2]]).length ≤ 100 := by
            rw [HN.out, List.length_map]
            have := ofK_len (C.take (k + 1)) kind
            rw [List.length_take] at this
            omega
          clear HC HS hg6 hown ho2 hb2 hblk q0 q1 q2 q3
          go_wp2
          go_roundw
          case rel => exact ⟨k + 1, _, by omega, by go_num, hO6, hl6, HN, hb6⟩
          case measure => simp only [intOf]; omega
      · rw [if_neg hxk, List.append_nil] at hst
        have HS : Hid (css = (ofK (C.take (k + 1)) kind).map itC) := hid (by rw [hst]; exact HC.out)
        have gk : (C[k].2 == kind) = false := by simpa using hxk
        clear hst HK hx hxk HC
        generalize C[k].2 = kk at *
        go_wp2
        go_roundw
        case rel => exact ⟨k + 1, css, by omega, by go_num, ho, hcl, HS, hb⟩
        case measure => simp only [intOf]; omega
    · obtain rfl : k = C.length := by omega
      have HC2 : Hid (css = (ofK C kind).map itC) := hid (by rw [HC.out, List.take_length])
      have hne : css ≠ [] := by rw [HC2.out]; intro e; exact HX.out (List.map_eq_nil_iff.1 e)
      rcases ho.2.2 with ⟨rfl, h0⟩ | ⟨gg, cap, cur, rfl, hgb, hrest⟩
      · exact absurd (List.eq_nil_of_length_eq_zero h0) hne
      have hpos : 0 < css.length := List.length_pos_iff.2 hne
      have gl : ((css.length : Int) == 0) = false := by simp; omega
      have hpr := hp0.later hb
      have b1 := b0.later hb
      have HCell : Hid (∀ j, j < css.length → ∃ x : It, x ∈ ofK C kind ∧ wr.cell? ⟨gg, j * 3, none⟩ = some (.int .i64 x.1) ∧ wr.cell? ⟨gg, j * 3 + 1, none⟩ = some (.string x.2.1) ∧ wr.cell? ⟨gg, j * 3 + 2, none⟩ = some (.string x.2.2)) := hid fun j hj => by
        have hj2 : j < (ofK C kind).length := by rw [HC2.out, List.length_map] at hj; exact hj
        have hq : ∀ i, i < 3 → wr.cell? ⟨gg, j * 3 + i, none⟩ = (itC (ofK C kind)[j])[i]? := fun i hi => by
          have hlt2 : j * 3 + i < css.length * 3 := by omega
          have c0 := World.ownsRow.cellAt ho.2 (j * 3 + i) hlt2
          rw [c0, flat_at ho.1 hj hi]
          congr 1
          have : css[j]? = some (itC (ofK C kind)[j]) := by rw [HC2.out, List.getElem?_map, List.getElem?_eq_getElem hj2]; rfl
          rw [List.getElem?_eq_getElem hj] at this
          exact Option.some.inj this
        exact ⟨(ofK C kind)[j], List.getElem_mem _, hq 0 (by decide), hq 1 (by decide), hq 2 (by decide)⟩
      have hgl2 : gg < wr.heap.size := (Array.getElem?_eq_some_iff.1 hrest.1).1
      have HN : Hid _ := hid (num_any hpr css.length hpos (by omega))
      have hbw : But g w wr := But.of (Below.on hB0 hb)
      clear HC HX hrest ho HK hp0 b0
      go_wp2_with fail
      refine Calls.mono HN.out ?_
      rintro e w3 ⟨j, r3, rfl, hj, hl3, hp3, hb3⟩
      obtain ⟨x, hxm, q0, q1, q2⟩ := HCell.out j hj
      replace q0 := hb3.cell q0 (by show gg ≠ g; omega)
      replace q1 := hb3.cell q1 (by show gg ≠ g; omega)
      replace q2 := hb3.cell q2 (by show gg ≠ g; omega)
      have hB3 := hbw.trans hb3
      have b3 := b1.but hb3 (by omega)
      have hgg3 : gg < w3.heap.size := Nat.lt_of_lt_of_le hgl2 hb3.size
      obtain ⟨y, hy, hyk, hyx⟩ := ofK_mem hxm
      subst hyx
      have HY : Hid (y ∈ C ∧ y.2 = kind) := hid ⟨hy, hyk⟩
      clear HN HCell hpr b1 hxm hy hyk hbw hb3
      obtain ⟨⟨y0, y1, y2⟩, yk⟩ := y
      simp only at q0 q1 q2
      have i0 : (0 : Int) ≤ (j : Int) := by omega
      have i1 : (j : Int) < (css.length : Int) := by omega
      go_upto_region 11 with fail
      have hp4 := (hp3.alloc (.cells #[.int .i64 y0, .string y1, .string y2] 64)).alloc (.cells #[.int .i64 2, .int .i64 0, .int .i64 0, .string ⟨#[]⟩, .string y1, .string y2, .slice none 0 0] 43)
      have hB4 := (hB3.alloc (.cells #[.int .i64 y0, .string y1, .string y2] 64)).alloc (.cells #[.int .i64 2, .int .i64 0, .int .i64 0, .string ⟨#[]⟩, .string y1, .string y2, .slice none 0 0] 43)
      have hb34 := bal (bal (Below.refl _ w3) (.cells #[.int .i64 y0, .string y1, .string y2] 64)) (.cells #[.int .i64 2, .int .i64 0, .int .i64 0, .string ⟨#[]⟩, .string y1, .string y2, .slice none 0 0] 43)
      have b4 := b3.later hb34
      have e4 : Be ((w3.alloc (.cells #[.int .i64 y0, .string y1, .string y2] 64)).alloc (.cells #[.int .i64 2, .int .i64 0, .int .i64 0, .string ⟨#[]⟩, .string y1, .string y2, .slice none 0 0] 43)) (w3.heap.size + 1) 2 (0, 0, ⟨#[]⟩, y1, y2) (.slice none 0 0) := by
        have := Be.new (w3.alloc (.cells #[.int .i64 y0, .string y1, .string y2] 64)) 2 (0, 0, ⟨#[]⟩, y1, y2) (.slice none 0 0)
        rwa [World.size_alloc] at this
      have c4 : ((w3.alloc (.cells #[.int .i64 y0, .string y1, .string y2] 64)).alloc (.cells #[.int .i64 2, .int .i64 0, .int .i64 0, .string ⟨#[]⟩, .string y1, .string y2, .slice none 0 0] 43)).cell? ⟨w3.heap.size, 2, none⟩ = some (.string y2) := cell_later (bal (Below.refl _ _) _) (cell_new w3 _ _ _ 2)
      have hz3 : w.heap.size < w3.heap.size := b3.lt
      clear hp3 hB3 b3 hb34 q0 q1 q2
      generalize (w3.alloc (.cells #[.int .i64 y0, .string y1, .string y2] 64)).alloc (.cells #[.int .i64 2, .int .i64 0, .int .i64 0, .string ⟨#[]⟩, .string y1, .string y2, .slice none 0 0] 43) = w4 at *
      generalize w3.heap.size = q at *
      have HN : Hid _ := hid (num_any hp4 3 (by decide) (by decide))
      go_wp2_with fail
      refine Calls.mono HN.out ?_
      rintro e w5 ⟨j5, r5, rfl, hj5, hl5, hp5, hb5⟩
      have hB5 := hB4.trans hb5
      have b5 := b4.but hb5 (by omega)
      have e5 := e4.but hb5 (by omega)
      have c5 := hb5.cell c4 (by show q ≠ g; omega)
      have hq5 := e5.lt
      clear HN hp4 hB4 b4 e4 c4 hb5
      by_cases h0 : j5 = 0
      · subst h0
        obtain ⟨k0, k1, k2, k3, k4, k5, k6⟩ := e5.cells
        obtain ⟨d0, d1, d2, d3, d4, d5, d6⟩ := b5.cells
        obtain ⟨f0, f1, f2, f3, f4, f5, f6⟩ := b5.free
        have HE : Hid _ := hid (hp5.set7 (b := w.heap.size) hgl 2 (0, 0, ⟨#[]⟩, y1, y2) (.slice none 0 0))
        have HB : Hid _ := hid (hB5.set7 (b := w.heap.size) (Nat.le_refl _) 2 (0, 0, ⟨#[]⟩, y1, y2) (.slice none 0 0))
        have HR : Hid (ColOK C kind y1 y2) := hid ⟨_, HY.out.1, HY.out.2, rfl, .inl rfl⟩
        clear e5 b5 hp5 hB5 HO HY
        simp only at k0 k1 k2 k3 k4 k5 k6 d0 d1 d2 d3 d4 d5 d6
        go_wp2
        exact bodyPost_ret (v := .tuple #[exV 2 (0, 0, ⟨#[]⟩, y1, y2) (.slice none 0 0), .bool true]) (by simp [results, Tryz.results20, go_sem, exV, d0, d1, d2, d3, d4, d5, d6]) rfl ⟨y1, y2, r5, rfl, HR.out, by have := hl3.1; have := hl5.1; omega, HE.out, HB.out⟩
      · have g5 : decide ((0 : Int) < (j5 : Int)) = true := by simp; omega
        have HO2 : Hid _ := hid (HO.out y2 w5 hB5)
        go_wp2_with fail
        refine Calls.mono HO2.out ?_
        rintro e w6 ⟨rfl, hw6⟩
        subst hw6
        clear HO2 HO
        by_cases h1 : cnt C y2 = 1
        · have gd : decide (cnt C y2 = 1) = true := by simpa using h1
          rw [gd]
          have e6 := e5.set4 ⟨#[]⟩
          have b6 := b5.other (r := q + 1) (by omega) 4 (.string ⟨#[]⟩)
          have hp6 := hp5.other (b := q + 1) (by omega) 4 (.string ⟨#[]⟩)
          have hB6 := hB5.new (r := q + 1) (by omega) 4 (.string ⟨#[]⟩)
          obtain ⟨k0, k1, k2, k3, k4, k5, k6⟩ := e6.cells
          obtain ⟨d0, d1, d2, d3, d4, d5, d6⟩ := b6.cells
          obtain ⟨f0, f1, f2, f3, f4, f5, f6⟩ := b6.free
          have hf4 := e5.free.2.2.2.2.1
          have HE : Hid _ := hid (hp6.set7 (b := w.heap.size) hgl 2 (0, 0, ⟨#[]⟩, ⟨#[]⟩, y2) (.slice none 0 0))
          have HB : Hid _ := hid (hB6.set7 (b := w.heap.size) (Nat.le_refl _) 2 (0, 0, ⟨#[]⟩, ⟨#[]⟩, y2) (.slice none 0 0))
          have HR : Hid (ColOK C kind ⟨#[]⟩ y2) := hid ⟨_, HY.out.1, HY.out.2, rfl, .inr ⟨rfl, h1⟩⟩
          have hsz : (w6.setCell ⟨q + 1, 4, none⟩ (.string ⟨#[]⟩)).heap.size = w6.heap.size := by simp [World.setCell]
          simp only at k0 k1 k2 k3 k4 k5 k6 d0 d1 d2 d3 d4 d5 d6
          clear b5 hp5 hB5 HY h1 gd e6 b6 hp6 hB6
          obtain ⟨j0, j1, j2, j3, j4, j5', j6⟩ := e5.cells
          clear e5
          go_upto_region 13 with fail
          generalize w6.setCell ⟨q + 1, 4, none⟩ (.string ⟨#[]⟩) = w7 at *
          clear j0 j1 j2 j3 j4 j5' j6
          go_wp2
          exact bodyPost_ret (v := .tuple #[exV 2 (0, 0, ⟨#[]⟩, ⟨#[]⟩, y2) (.slice none 0 0), .bool true]) (by simp [results, Tryz.results20, go_sem, exV, d0, d1, d2, d3, d4, d5, d6]) rfl ⟨⟨#[]⟩, y2, r5, rfl, HR.out, by have := hl3.1; have := hl5.1; omega, HE.out, HB.out⟩
        · have gd : decide (cnt C y2 = 1) = false := by simpa using h1
          rw [gd]
          obtain ⟨k0, k1, k2, k3, k4, k5, k6⟩ := e5.cells
          obtain ⟨d0, d1, d2, d3, d4, d5, d6⟩ := b5.cells
          obtain ⟨f0, f1, f2, f3, f4, f5, f6⟩ := b5.free
          have HE : Hid _ := hid (hp5.set7 (b := w.heap.size) hgl 2 (0, 0, ⟨#[]⟩, y1, y2) (.slice none 0 0))
          have HB : Hid _ := hid (hB5.set7 (b := w.heap.size) (Nat.le_refl _) 2 (0, 0, ⟨#[]⟩, y1, y2) (.slice none 0 0))
          have HR : Hid (ColOK C kind y1 y2) := hid ⟨_, HY.out.1, HY.out.2, rfl, .inl rfl⟩
          clear e5 b5 hp5 hB5 HY h1 gd
          simp only at k0 k1 k2 k3 k4 k5 k6 d0 d1 d2 d3 d4 d5 d6
          go_wp2
          exact bodyPost_ret (v := .tuple #[exV 2 (0, 0, ⟨#[]⟩, y1, y2) (.slice none 0 0), .bool true]) (by simp [results, Tryz.results20, go_sem, exV, d0, d1, d2, d3, d4, d5, d6]) rfl ⟨y1, y2, r5, rfl, HR.out, by have := hl3.1; have := hl5.1; omega, HE.out, HB.out⟩
end Go.Proofs.YtnboooaockgoiaaGreatDoor
