import Derived.Test.YtfopfhlohihihaaGreatSav
import Derived.BigRegion
namespace Go.Proofs.YtfopfhlohihihaaGreat
open Go.RowKit
set_option linter.unusedVariables false
set_option linter.unusedSimpArgs false
def joP {α : Type} (sep : ByteArray) (g : ByteArray → α → ByteArray) (s0 : ByteArray) : List α → ByteArray
 | [] => s0
 | x :: r => r.foldl (fun s y => g (s ++ sep) y) (g s0 x)
theorem joP_snoc {α : Type} {sep s0 : ByteArray} {g : ByteArray → α → ByteArray} {l : List α} (h : l ≠ []) (y : α) : joP sep g s0 (l ++ [y]) = g (joP sep g s0 l ++ sep) y := by
 cases l with
 | nil => exact absurd rfl h
 | cons x r => simp only [List.cons_append,joP,List.foldl_append,List.foldl_cons,List.foldl_nil]
theorem joP_le {α : Type} {sep s0 : ByteArray} {g : ByteArray → α → ByteArray} (hg : ∀ s y,s.size ≤ (g s y).size) (l m : List α) : (joP sep g s0 l).size ≤ (joP sep g s0 (l ++ m)).size := by
 induction m generalizing l with
 | nil => rw [List.append_nil]; exact Nat.le_refl _
 | cons y m ih =>
  have h1 : (joP sep g s0 l).size ≤ (joP sep g s0 (l ++ [y])).size := by
   by_cases h : l = []
   ·subst h; exact hg _ _
   ·rw [joP_snoc h]
    refine Nat.le_trans ?_ (hg _ _)
    rw [ByteArray.size_append]; omega
  have h2 := ih (l ++ [y])
  rw [List.append_assoc] at h2
  exact Nat.le_trans h1 h2
theorem joP_take {α : Type} {sep s0 : ByteArray} {g : ByteArray → α → ByteArray} (hg : ∀ s y,s.size ≤ (g s y).size) (l : List α) (k : Nat) : (joP sep g s0 (l.take k)).size ≤ (joP sep g s0 l).size := by
 have := joP_le (sep := sep) (s0 := s0) hg (l.take k) (l.drop k)
 rw [List.take_append_drop] at this
 exact this
theorem joP_step {α : Type} {sep s0 : ByteArray} {g : ByteArray → α → ByteArray} {l : List α} {k : Nat} (hk : k < l.length) : joP sep g s0 (l.take (k + 1)) = if k = 0 then g s0 l[k] else g (joP sep g s0 (l.take k) ++ sep) l[k] := by
 rw [List.take_succ_eq_append_getElem hk]
 by_cases h : k = 0
 ·subst h; rw [if_pos rfl,List.take_zero]; rfl
 ·rw [if_neg h,joP_snoc]
  intro e
  have h2 : (l.take k).length = 0 := by rw [e]; rfl
  rw [List.length_take] at h2
  omega
theorem isEmpty_ne {t : ByteArray} (h : t ≠ ⟨#[]⟩) : t.toList.isEmpty = false := by
 cases hl : t.toList with
 | nil =>
  rw [ByteArray.toList_eq] at hl
  exact absurd (ByteArray.ext (Array.toList_inj.1 hl)) h
 | cons x l => rfl
def kiB (k : Int) : ByteArray := if k = 1 then ⟨#[105,110,116]⟩ else ⟨#[116,101,120,116]⟩
def cdB (s : ByteArray) (c : Co) : ByteArray := if c.2.2 = ⟨#[]⟩ then ((s ++ c.1) ++ ⟨#[32]⟩) ++ kiB c.2.1 else ((((s ++ c.1) ++ ⟨#[32]⟩) ++ kiB c.2.1) ++ ⟨#[32,114,101,102,32]⟩) ++ c.2.2
theorem cdB_le (s : ByteArray) (c : Co) : s.size + c.1.size + c.2.2.size ≤ (cdB s c).size := by
 rw [cdB]
 split
 ·rename_i h
  rw [h]
  simp only [ByteArray.size_append]
  show s.size + c.1.size + 0 ≤ _
  omega
 ·simp only [ByteArray.size_append]; omega
theorem RowIs.col1 {Q : Nat → Prop} {w : World} {a : Option Addr} {n c : Nat} {l : List Co} (h : RowIs eCol Q w (.slice a n c) l) {k : Nat} (hk : k < l.length) : ∃ b o,a = some ⟨b,o,none⟩ ∧ w.cell? ⟨b,o + k * 3,none⟩ = some (.string l[k].1) ∧ w.cell? ⟨b,o + k * 3 + 1,none⟩ = some (.int .i64 l[k].2.1) ∧ w.cell? ⟨b,o + k * 3 + 2,none⟩ = some (.string l[k].2.2) := by
 obtain ⟨ao,n0,c0,hv,hl,_,_,hx⟩ := h
 cases hv
 obtain ⟨b,o,ha,_,hi⟩ := hx (by omega)
 obtain ⟨cs,hcs,_,hc⟩ := hi k hk
 have hcs' : cs = [.string l[k].1,.int .i64 l[k].2.1,.string l[k].2.2] := hcs
 subst hcs'
 exact ⟨b,o,ha,hc 0 (show 0 < 3 by decide),hc 1 (show 1 < 3 by decide),hc 2 (show 2 < 3 by decide)⟩
def taT (m : Sm) : ByteArray := joP ⟨#[44,32]⟩ cdB ((⟨#[99,114,101,97,116,101,32,116,97,98,108,101,32]⟩ ++ m.name) ++ ⟨#[40]⟩) m.cols ++ ⟨#[41]⟩
set_option maxRecDepth 100000 in
set_option maxHeartbeats 8000000 in
theorem fShow_table {m : Sm} {s : Sv} {Q : Nat → Prop} {w : World} (hk : m.kind = 1) (hc : ∀ c ∈ m.cols,c.2.1 = 1 ∨ c.2.1 = 2) (hz : (taT m).size ≤ 900000) (h : IsS Q w m s) :
  Calls Tryz.prog 10 #[stV s] w fun e w' => e = .returned (.string (taT m)) ∧ Below w.heap.size w w' := by
 have hnum := h.co.num
 have HK : Hid (∀ k (hk : k < m.cols.length),∀ w1,Below w.heap.size w w1 → ∃ (b o : Nat) (cn cr : ByteArray) (ck : Int),s.co.1 = some ⟨b,o,none⟩ ∧ b < w.heap.size ∧ (w1.cell? ⟨b,o + k * 3,none⟩ = some (.string cn) ∧ w1.cell? ⟨b,o + k * 3 + 1,none⟩ = some (.int .i64 ck) ∧ w1.cell? ⟨b,o + k * 3 + 2,none⟩ = some (.string cr)) ∧ (ck = 1 ∨ ck = 2) ∧
   (k = 0 → cdB ((⟨#[99,114,101,97,116,101,32,116,97,98,108,101,32]⟩ ++ m.name) ++ ⟨#[40]⟩) (cn,ck,cr) = joP ⟨#[44,32]⟩ cdB ((⟨#[99,114,101,97,116,101,32,116,97,98,108,101,32]⟩ ++ m.name) ++ ⟨#[40]⟩) (m.cols.take (k + 1))) ∧ (k ≠ 0 → cdB (joP ⟨#[44,32]⟩ cdB ((⟨#[99,114,101,97,116,101,32,116,97,98,108,101,32]⟩ ++ m.name) ++ ⟨#[40]⟩) (m.cols.take k) ++ ⟨#[44,32]⟩) (cn,ck,cr) = joP ⟨#[44,32]⟩ cdB ((⟨#[99,114,101,97,116,101,32,116,97,98,108,101,32]⟩ ++ m.name) ++ ⟨#[40]⟩) (m.cols.take (k + 1))) ∧ (joP ⟨#[44,32]⟩ cdB ((⟨#[99,114,101,97,116,101,32,116,97,98,108,101,32]⟩ ++ m.name) ++ ⟨#[40]⟩) (m.cols.take (k + 1))).size ≤ 900000 ∧ cn.size ≤ 900000 ∧ cr.size ≤ 900000) := hid fun k hk w1 hb => by
  obtain ⟨b,o,e1,q0,q1,q2⟩ := RowIs.col1 h.co hk
  have hst := joP_step (sep := ⟨#[44,32]⟩) (s0 := (⟨#[99,114,101,97,116,101,32,116,97,98,108,101,32]⟩ ++ m.name) ++ ⟨#[40]⟩) (g := cdB) hk
  have hle : (joP ⟨#[44,32]⟩ cdB ((⟨#[99,114,101,97,116,101,32,116,97,98,108,101,32]⟩ ++ m.name) ++ ⟨#[40]⟩) (m.cols.take (k + 1))).size ≤ 900000 := by
   have h1 := joP_take (sep := ⟨#[44,32]⟩) (s0 := (⟨#[99,114,101,97,116,101,32,116,97,98,108,101,32]⟩ ++ m.name) ++ ⟨#[40]⟩) (g := cdB) (fun s y => by have := cdB_le s y; omega) m.cols (k + 1)
   rw [taT,ByteArray.size_append] at hz
   omega
  have hcs : m.cols[k].1.size ≤ 900000 ∧ m.cols[k].2.2.size ≤ 900000 := by
   rw [hst] at hle
   split at hle
   ·have := cdB_le ((⟨#[99,114,101,97,116,101,32,116,97,98,108,101,32]⟩ ++ m.name) ++ ⟨#[40]⟩) m.cols[k]; omega
   ·have := cdB_le (joP ⟨#[44,32]⟩ cdB ((⟨#[99,114,101,97,116,101,32,116,97,98,108,101,32]⟩ ++ m.name) ++ ⟨#[40]⟩) (m.cols.take k) ++ ⟨#[44,32]⟩) m.cols[k]; omega
  refine ⟨b,o,m.cols[k].1,m.cols[k].2.2,m.cols[k].2.1,e1,World.block_lt_of_cell? _ _ q0,⟨cell_later hb q0,cell_later hb q1,cell_later hb q2⟩,hc _ (List.getElem_mem _),fun e => ?_,fun e => ?_,hle,hcs.1,hcs.2⟩
  ·rw [hst,if_pos e]
  ·rw [hst,if_neg e]
 have HZ : Hid (joP ⟨#[44,32]⟩ cdB ((⟨#[99,114,101,97,116,101,32,116,97,98,108,101,32]⟩ ++ m.name) ++ ⟨#[40]⟩) (m.cols.take m.cols.length) ++ ⟨#[41]⟩ = taT m) := hid (by rw [List.take_length]; rfl)
 have hzn : m.name.size ≤ 900000 := by
  have h1 := joP_take (sep := ⟨#[44,32]⟩) (s0 := (⟨#[99,114,101,97,116,101,32,116,97,98,108,101,32]⟩ ++ m.name) ++ ⟨#[40]⟩) (g := cdB) (fun s y => by have := cdB_le s y; omega) m.cols 0
  rw [taT,ByteArray.size_append] at hz
  have h2 : (joP ⟨#[44,32]⟩ cdB ((⟨#[99,114,101,97,116,101,32,116,97,98,108,101,32]⟩ ++ m.name) ++ ⟨#[40]⟩) (m.cols.take 0)).size = ((⟨#[99,114,101,97,116,101,32,116,97,98,108,101,32]⟩ ++ m.name) ++ ⟨#[40]⟩).size := rfl
  rw [h2,ByteArray.size_append,ByteArray.size_append] at h1
  omega
 have e0 := h.k.trans hk
 have e2 := h.nm
 rw [← e2] at HK HZ hzn
 generalize m.cols.length = N at *
 generalize taT m = RR at *
 obtain ⟨hn1,hn2,hn3⟩ := hnum
 clear h hk hc hz e2
 obtain ⟨k,tb,nm,⟨coa,con,coc⟩,⟨taa,tan,tac⟩,⟨vaa,van,vac⟩,⟨ita,itn,itc⟩,jn,⟨ona,onn,onc⟩,⟨wha,whn,whc⟩,⟨oda,odn,odc⟩,ds,⟨inna,innn,innc⟩⟩ := s
 simp only at e0 hn1 hn2 hn3 HK HZ hzn
 subst e0 hn1
 have hz0 : ((⟨#[99,114,101,97,116,101,32,116,97,98,108,101,32]⟩ ++ nm) ++ ⟨#[40]⟩).size ≤ 1000000 := by
  rw [ByteArray.size_append,ByteArray.size_append,show (⟨#[99,114,101,97,116,101,32,116,97,98,108,101,32]⟩ : ByteArray).size = 13 from rfl,show (⟨#[40]⟩ : ByteArray).size = 1 from rfl]; omega
 unfold stV
 have bB : Bs (w.alloc (.cells #[.int .i64 1,.string tb,.string nm,.slice coa con coc,.slice taa tan tac,.slice vaa van vac,.slice ita itn itc,.string jn,.slice ona onn onc,.slice wha whn whc,.slice oda odn odc,.bool ds,.slice inna innn innc] 30)) w.heap.size ⟨1,tb,nm,(coa,con,coc),(taa,tan,tac),(vaa,van,vac),(ita,itn,itc),jn,(ona,onn,onc),(wha,whn,whc),(oda,odn,odc),ds,(inna,innn,innc)⟩ := Bs.new w ⟨1,tb,nm,(coa,con,coc),(taa,tan,tac),(vaa,van,vac),(ita,itn,itc),jn,(ona,onn,onc),(wha,whn,whc),(oda,odn,odc),ds,(inna,innn,innc)⟩
 have hB2 := bal (Below.refl _ w) (.cells #[.int .i64 1,.string tb,.string nm,.slice coa con coc,.slice taa tan tac,.slice vaa van vac,.slice ita itn itc,.string jn,.slice ona onn onc,.slice wha whn whc,.slice oda odn odc,.bool ds,.slice inna innn innc] 30)
 simp only
 go_enter Tryz.func10,Tryz.ntmps10
 go_wp2
 generalize w.alloc (.cells #[.int .i64 1,.string tb,.string nm,.slice coa con coc,.slice taa tan tac,.slice vaa van vac,.slice ita itn itc,.string jn,.slice ona onn onc,.slice wha whn whc,.slice oda odn odc,.bool ds,.slice inna innn innc] 30) = W at *
 have HB2 : Hid (∀ w',Below W.heap.size W w' → Below w.heap.size w w') := hid fun w' hb => Below.on hB2 hb
 clear hB2
 generalize hqa : w.heap.size = qa at *
 go_loopw [3,4] (fun o i wr => ∃ (k : Nat) (S : ByteArray),k ≤ con ∧ o = .string S ∧ i = .int .i64 k ∧ S.size ≤ 1000000 ∧ Hid (S = joP ⟨#[44,32]⟩ cdB ((⟨#[99,114,101,97,116,101,32,116,97,98,108,101,32]⟩ ++ nm) ++ ⟨#[40]⟩) (m.cols.take k)) ∧ Below W.heap.size W wr) (fun _ i _ => con - (intOf i).toNat)
 case atStart => exact ⟨0,_,Nat.zero_le _,rfl,rfl,hz0,hid rfl,Below.refl _ _⟩
 case round =>
  obtain ⟨k,S,hk,rfl,rfl,hzS,HS,hb⟩ := hrel
  by_cases hlt : k < con
  ·obtain ⟨b,o,cn,cr,ck,rfl,hbl,⟨q0,q1,q2⟩,hck,hn0,hn1,hzk,hzc,hzr⟩ := HK.out k hlt wr (HB2.out _ hb)
   have HN : Hid (cdB (if k = 0 then S else S ++ ⟨#[44,32]⟩) (cn,ck,cr) = joP ⟨#[44,32]⟩ cdB ((⟨#[99,114,101,97,116,101,32,116,97,98,108,101,32]⟩ ++ nm) ++ ⟨#[40]⟩) (m.cols.take (k + 1))) := hid (by
    by_cases h0 : k = 0
    ·rw [if_pos h0,HS.out]
     subst h0
     exact hn0 rfl
    ·rw [if_neg h0,HS.out]
     exact hn1 h0)
   have c3 : wr.cell? ⟨qa,3,none⟩ = some (.slice (some ⟨b,o,none⟩) con coc) := (bB.later hb).cells.2.2.2.1
   have hC : Below wr.heap.size wr wr.drew := (Below.refl _ wr).drew
   clear hn0 hn1 HS HK bB HZ
   by_cases h0 : k = 0
   ·rw [if_pos h0] at HN
    subst h0
    simp only [Nat.zero_mul,Nat.add_zero] at q0 q1 q2
    have HKs : Hid (∀ w',Below wr.heap.size wr w' → w'.cell? ⟨qa,3,none⟩ = some (.slice (some ⟨b,o,none⟩) con coc) ∧ w'.cell? ⟨b,o,none⟩ = some (.string cn) ∧ w'.cell? ⟨b,o + 1,none⟩ = some (.int .i64 ck) ∧ w'.cell? ⟨b,o + 2,none⟩ = some (.string cr)) := hid fun w' hb' => ⟨cell_later hb' c3,cell_later hb' q0,cell_later hb' q1,cell_later hb' q2⟩
    have i1 : (0 : Int) < (con : Int) := by omega
    have k0 : ¬ 9223372036854775807 < S.size := by omega
    have k1 : ¬ 9223372036854775807 < S.size + cn.size := by omega
    have k2 : ¬ 9223372036854775807 < S.size + cn.size + 1 := by omega
    have k3 : ¬ 9223372036854775807 < S.size + cn.size + 1 + 3 := by omega
    have k4 : ¬ 9223372036854775807 < S.size + cn.size + 1 + 4 := by omega
    have k5 : ¬ 9223372036854775807 < S.size + cn.size + 1 + 3 + 5 := by omega
    have k6 : ¬ 9223372036854775807 < S.size + cn.size + 1 + 4 + 5 := by omega
    have k7 : ¬ 9223372036854775807 < S.size + cn.size + 1 + 3 + 5 + cr.size := by omega
    have k8 : ¬ 9223372036854775807 < S.size + cn.size + 1 + 4 + 5 + cr.size := by omega
    rcases hck with rfl | rfl
    ·go_upto_region 9 with fail
     obtain ⟨z0,z1,z2,z3⟩ := HKs.out _ (bal (Below.refl _ wr) (.cells #[.string ⟨#[105,110,116]⟩,.string ⟨#[116,101,120,116]⟩] 9)).drew
     obtain ⟨y0,y1,y2,y3⟩ := HKs.out _ hC
     go_region
     all_goals
      have hE2 : Hid (cdB S (cn,1,cr) = if cr = ⟨#[]⟩ then ((S ++ cn) ++ ⟨#[32]⟩) ++ ⟨#[105,110,116]⟩ else ((((S ++ cn) ++ ⟨#[32]⟩) ++ ⟨#[105,110,116]⟩) ++ ⟨#[32,114,101,102,32]⟩) ++ cr) := hid rfl
      by_cases hr : cr = ⟨#[]⟩
      ·rw [if_pos hr] at hE2
       subst hr
       go_wp2
       go_roundw
       case rel => exact ⟨1,_,by omega,rfl,by go_num,by rw [← hE2.out,HN.out]; omega,hid (by rw [← hE2.out]; exact HN.out),Below.on hb (by first | exact bal hC _ | exact (bal (Below.refl _ wr) _).drew | exact bal (Below.refl _ wr) _)⟩
       case measure => simp only [intOf]; omega
      ·rw [if_neg hr] at hE2
       have hi := isEmpty_ne hr
       clear hr
       go_wp2
       go_roundw
       case rel => exact ⟨1,_,by omega,rfl,by go_num,by rw [← hE2.out,HN.out]; omega,hid (by rw [← hE2.out]; exact HN.out),Below.on hb (by first | exact bal hC _ | exact (bal (Below.refl _ wr) _).drew | exact bal (Below.refl _ wr) _)⟩
       case measure => simp only [intOf]; omega
    ·go_upto_region 9 with fail
     obtain ⟨z0,z1,z2,z3⟩ := HKs.out _ (bal (Below.refl _ wr) (.cells #[.string ⟨#[105,110,116]⟩,.string ⟨#[116,101,120,116]⟩] 9)).drew
     obtain ⟨y0,y1,y2,y3⟩ := HKs.out _ hC
     go_region
     all_goals
      have hE2 : Hid (cdB S (cn,2,cr) = if cr = ⟨#[]⟩ then ((S ++ cn) ++ ⟨#[32]⟩) ++ ⟨#[116,101,120,116]⟩ else ((((S ++ cn) ++ ⟨#[32]⟩) ++ ⟨#[116,101,120,116]⟩) ++ ⟨#[32,114,101,102,32]⟩) ++ cr) := hid rfl
      by_cases hr : cr = ⟨#[]⟩
      ·rw [if_pos hr] at hE2
       subst hr
       go_wp2
       go_roundw
       case rel => exact ⟨1,_,by omega,rfl,by go_num,by rw [← hE2.out,HN.out]; omega,hid (by rw [← hE2.out]; exact HN.out),Below.on hb (by first | exact bal hC _ | exact (bal (Below.refl _ wr) _).drew | exact bal (Below.refl _ wr) _)⟩
       case measure => simp only [intOf]; omega
      ·rw [if_neg hr] at hE2
       have hi := isEmpty_ne hr
       clear hr
       go_wp2
       go_roundw
       case rel => exact ⟨1,_,by omega,rfl,by go_num,by rw [← hE2.out,HN.out]; omega,hid (by rw [← hE2.out]; exact HN.out),Below.on hb (by first | exact bal hC _ | exact (bal (Below.refl _ wr) _).drew | exact bal (Below.refl _ wr) _)⟩
       case measure => simp only [intOf]; omega
   ·rw [if_neg h0] at HN
    have g0 : decide ((0 : Int) < (k : Int)) = true := by simp; omega
    have i0 : (0 : Int) ≤ (k : Int) := by omega
    have i1 : (k : Int) < (con : Int) := by omega
    have HKs : Hid (∀ w',Below wr.heap.size wr w' → w'.cell? ⟨qa,3,none⟩ = some (.slice (some ⟨b,o,none⟩) con coc) ∧ w'.cell? ⟨b,o + k * 3,none⟩ = some (.string cn) ∧ w'.cell? ⟨b,o + k * 3 + 1,none⟩ = some (.int .i64 ck) ∧ w'.cell? ⟨b,o + k * 3 + 2,none⟩ = some (.string cr)) := hid fun w' hb' => ⟨cell_later hb' c3,cell_later hb' q0,cell_later hb' q1,cell_later hb' q2⟩
    have k0 : ¬ 9223372036854775807 < S.size + 2 := by omega
    have k1 : ¬ 9223372036854775807 < S.size + 2 + cn.size := by omega
    have k2 : ¬ 9223372036854775807 < S.size + 2 + cn.size + 1 := by omega
    have k3 : ¬ 9223372036854775807 < S.size + 2 + cn.size + 1 + 3 := by omega
    have k4 : ¬ 9223372036854775807 < S.size + 2 + cn.size + 1 + 4 := by omega
    have k5 : ¬ 9223372036854775807 < S.size + 2 + cn.size + 1 + 3 + 5 := by omega
    have k6 : ¬ 9223372036854775807 < S.size + 2 + cn.size + 1 + 4 + 5 := by omega
    have k7 : ¬ 9223372036854775807 < S.size + 2 + cn.size + 1 + 3 + 5 + cr.size := by omega
    have k8 : ¬ 9223372036854775807 < S.size + 2 + cn.size + 1 + 4 + 5 + cr.size := by omega
    rcases hck with rfl | rfl
    ·go_upto_region 9 with fail
     obtain ⟨z0,z1,z2,z3⟩ := HKs.out _ (bal (Below.refl _ wr) (.cells #[.string ⟨#[105,110,116]⟩,.string ⟨#[116,101,120,116]⟩] 9)).drew
     obtain ⟨y0,y1,y2,y3⟩ := HKs.out _ hC
     go_region
     all_goals
      have hE2 : Hid (cdB (S ++ ⟨#[44,32]⟩) (cn,1,cr) = if cr = ⟨#[]⟩ then (((S ++ ⟨#[44,32]⟩) ++ cn) ++ ⟨#[32]⟩) ++ ⟨#[105,110,116]⟩ else (((((S ++ ⟨#[44,32]⟩) ++ cn) ++ ⟨#[32]⟩) ++ ⟨#[105,110,116]⟩) ++ ⟨#[32,114,101,102,32]⟩) ++ cr) := hid rfl
      by_cases hr : cr = ⟨#[]⟩
      ·rw [if_pos hr] at hE2
       subst hr
       go_wp2
       go_roundw
       case rel => exact ⟨k + 1,_,by omega,rfl,by go_num,by rw [← hE2.out,HN.out]; omega,hid (by rw [← hE2.out]; exact HN.out),Below.on hb (by first | exact bal hC _ | exact (bal (Below.refl _ wr) _).drew | exact bal (Below.refl _ wr) _)⟩
       case measure => simp only [intOf]; omega
      ·rw [if_neg hr] at hE2
       have hi := isEmpty_ne hr
       clear hr
       go_wp2
       go_roundw
       case rel => exact ⟨k + 1,_,by omega,rfl,by go_num,by rw [← hE2.out,HN.out]; omega,hid (by rw [← hE2.out]; exact HN.out),Below.on hb (by first | exact bal hC _ | exact (bal (Below.refl _ wr) _).drew | exact bal (Below.refl _ wr) _)⟩
       case measure => simp only [intOf]; omega
    ·go_upto_region 9 with fail
     obtain ⟨z0,z1,z2,z3⟩ := HKs.out _ (bal (Below.refl _ wr) (.cells #[.string ⟨#[105,110,116]⟩,.string ⟨#[116,101,120,116]⟩] 9)).drew
     obtain ⟨y0,y1,y2,y3⟩ := HKs.out _ hC
     go_region
     all_goals
      have hE2 : Hid (cdB (S ++ ⟨#[44,32]⟩) (cn,2,cr) = if cr = ⟨#[]⟩ then (((S ++ ⟨#[44,32]⟩) ++ cn) ++ ⟨#[32]⟩) ++ ⟨#[116,101,120,116]⟩ else (((((S ++ ⟨#[44,32]⟩) ++ cn) ++ ⟨#[32]⟩) ++ ⟨#[116,101,120,116]⟩) ++ ⟨#[32,114,101,102,32]⟩) ++ cr) := hid rfl
      by_cases hr : cr = ⟨#[]⟩
      ·rw [if_pos hr] at hE2
       subst hr
       go_wp2
       go_roundw
       case rel => exact ⟨k + 1,_,by omega,rfl,by go_num,by rw [← hE2.out,HN.out]; omega,hid (by rw [← hE2.out]; exact HN.out),Below.on hb (by first | exact bal hC _ | exact (bal (Below.refl _ wr) _).drew | exact bal (Below.refl _ wr) _)⟩
       case measure => simp only [intOf]; omega
      ·rw [if_neg hr] at hE2
       have hi := isEmpty_ne hr
       clear hr
       go_wp2
       go_roundw
       case rel => exact ⟨k + 1,_,by omega,rfl,by go_num,by rw [← hE2.out,HN.out]; omega,hid (by rw [← hE2.out]; exact HN.out),Below.on hb (by first | exact bal hC _ | exact (bal (Below.refl _ wr) _).drew | exact bal (Below.refl _ wr) _)⟩
       case measure => simp only [intOf]; omega
  ·obtain rfl : k = con := by omega
   have E : Hid (S ++ ⟨#[41]⟩ = RR) := hid (by rw [HS.out]; exact HZ.out)
   have c3 : wr.cell? ⟨qa,3,none⟩ = some (.slice coa k coc) := (bB.later hb).cells.2.2.2.1
   clear HK HS HZ bB
   go_wp2
   go_ret
   exact ⟨by rw [E.out]; rfl,by rw [hqa]; exact HB2.out _ hb⟩
end Go.Proofs.YtfopfhlohihihaaGreat
