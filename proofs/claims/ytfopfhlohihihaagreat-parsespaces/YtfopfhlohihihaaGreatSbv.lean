import Derived.Test.YtfopfhlohihihaaGreatSbu
import Derived.Test.YtfopfhlohihihaaGreatSbs
import Derived.Test.YtfopfhlohihihaaGreatSbm
import Derived.Test.YtfopfhlohihihaaGreatSas
namespace Go.Proofs.YtfopfhlohihihaaGreat
open Go.RowKit
set_option linter.unusedVariables false
set_option linter.unusedSimpArgs false
theorem Good.told' {m : Sf} {X : ByteArray} (h : Good m X) (hz : X.size ≤ 400) : ∀ Y a f,PaR X Y a f → f = 0 ∧ Y = some m := told_shown h.sf h.words.words h.text hz
def spB (i : Nat) : ByteArray := ⟨(List.replicate i 32).toArray⟩
theorem spB_bs (i : Nat) : bs (spB i) = List.replicate i 32 := by simp [bs,spB]
theorem spB_succ (i : Nat) : spB i ++ ⟨#[32]⟩ = spB (i + 1) := bs_ext (by rw [bs_app,spB_bs,spB_bs,rep_add i 1]; rfl)
theorem spB_size (i : Nat) : (spB i).size = i := by rw [← bs_length,spB_bs,List.length_replicate]
theorem lex_few {s : ByteArray} {l : List Tk} {a : Int} (h : LexR s l a 0) : l.length ≤ 402 := by
 rcases h with ⟨_,rfl,_⟩ | ⟨h,hx⟩
 ·simp
 ·have := (hx.ended rfl (Nat.zero_le _)).2
  omega
set_option maxRecDepth 100000 in
set_option maxHeartbeats 8000000 in
theorem parseSpaces_any {a : Option Addr} {len cap : Nat} (x1 : UInt8) {w : World} (h1 : len ≤ cap) (h2 : cap ≤ 9223372036854775807) (h3 : Nums w w.heap.size a len) :
  Calls Tryz.prog 4 #[.slice a len cap,.int .u8 (x1.toNat : Int)] w fun e w' => e = .returned (.bool true) ∧ Below w.heap.size w w' := by
 have HB : Hid _ := hid (begun_any w)
 obtain ⟨d,hd,hd'⟩ : ∃ r : Nat,r < 4 ∧ x1.toNat % 4 = r := ⟨_,Nat.mod_lt _ (by decide),rfl⟩
 have b1 : x1.toNat < 256 := x1.toNat_lt
 have t1 : (x1.toNat : Int).tmod 4 = (d : Int) := by rw [Int.tmod_eq_emod_of_nonneg (by omega)]; omega
 have g1 : (x1.toNat : Int) % 4 = (d : Int) := by omega
 clear hd'
 go_enter Tryz.func4,Tryz.ntmps4
 go_wp2_with fail
 refine Calls.mono HB.out ?_
 rintro e w1 ⟨rfl,hb1⟩
 clear HB
 by_cases h50 : 40 < len
 ·have g50 : decide ((40 : Int) < (len : Int)) = true := by simp; omega
  have g51 : decide (40 < len) = true := by simpa using h50
  go_wp2
  go_ret
  exact ⟨rfl,hb1⟩
 have g50 : decide ((40 : Int) < (len : Int)) = false := by simp; omega
 have g51 : decide (40 < len) = false := by simpa using h50
 have hN1 : Nums w1 w1.heap.size a len := fun hp => by
  obtain ⟨b,o,e,hb,hl,hz⟩ := h3 hp
  refine ⟨b,o,e,by have := hb1.size; omega,by have := hb1.size; omega,fun k hk => ?_⟩
  obtain ⟨z,z0,z1,hc⟩ := hz k hk
  exact ⟨z,z0,z1,cell_later hb1 hc⟩
 have HM : Hid _ := hid (made_any h1 h2 hN1)
 clear hN1 h3
 go_upto_region 5 with fail
 go_cut [5] (fun v5 w' => ∃ X m,v5 = .string X ∧ Good m X ∧ Below w.heap.size w w')
 case first =>
  go_wp2_with fail
  refine Calls.mono HM.out ?_
  rintro e w4 ⟨rfl,hp4,hb4⟩
  have HS : Hid _ := hid (playStmt_any hp4)
  have hB4 := Below.on hb1 hb4
  have hs4 := hb4.size
  have hs1 := hb1.size
  generalize w1.heap.size = g at *
  clear HM hp4 hb4 hb1
  go_wp2_with fail
  refine Calls.mono HS.out ?_
  rintro e u ⟨s,m,r',rfl,hm,-,-,hb5,hI,hR⟩
  have hB5 : Below w.heap.size w u := hb5.below hB4 (by omega) (by omega)
  obtain ⟨X,hg⟩ := st_good hm
  have HSh : Hid _ := hid (hg.shows _ u _ hI hR)
  clear HS hb5 hI hR hB4 hm
  go_wp2_with fail
  refine Calls.mono HSh.out ?_
  rintro e u2 ⟨rfl,hb6⟩
  have hB6 := Below.on hB5 hb6
  clear HSh hb6 hB5
  go_wp2_with fail
  go_meet
  exact ⟨X,m,rfl,hg,hB6⟩
 case rest =>
 obtain ⟨X,m,rfl,hg,hB⟩ := hcut
 clear HM hb1 g50 g51 h50 h1 h2
 have hzX := hg.few
 go_upto_block 0 with fail
 go_cut [6,7] (fun v6 v7 w' => v6 = .string (spB d) ∧ Below wc.heap.size wc w')
 case first =>
  go_wp2
  go_loopw [6,7] (fun v6 v7 wr => ∃ i : Nat,i ≤ d ∧ v6 = .string (spB i) ∧ v7 = .int .i64 i ∧ Below wc.heap.size wc wr) (fun _ v7 _ => d - (intOf v7).toNat)
  case atStart => exact ⟨0,Nat.zero_le _,rfl,rfl,Below.refl _ _⟩
  case round =>
   obtain ⟨i,hi,rfl,rfl,hb⟩ := hrel
   by_cases hlt : i < d
   ·have gi : decide ((i : Int) < (d : Int)) = true := by simpa using hlt
    have HZ : Hid _ := hid (spB_succ i)
    have hz9 := spB_size i
    obtain ⟨Z,hZ⟩ : ∃ Z,spB i = Z := ⟨_,rfl⟩
    rw [hZ] at HZ hz9 ⊢
    have z0 : ¬ 9223372036854775807 < Z.size + 1 := by omega
    clear hZ hg hz9
    go_wp2
    go_roundw
    case rel => exact ⟨i + 1,by omega,by rw [← HZ.out],by go_num,hb⟩
    case measure => simp only [intOf]; omega
   ·obtain rfl : i = d := by omega
    have gi : decide ((i : Int) < (i : Int)) = false := by simp
    clear hg
    go_wp2_with fail
    go_meet
    exact ⟨rfl,hb⟩
 case rest =>
 obtain ⟨rfl,hb0⟩ := hcut
 have hB0 := Below.on hB hb0
 clear hB hb0 t1 g1 b1
 have hzM := spB_size d
 have HMs : Hid (bs (spB d) = List.replicate d 32) := hid (spB_bs d)
 generalize spB d = M at *
 generalize wc = wd at *
 have HLx : Hid _ := hid (refLex_any X (by omega) wd)
 go_wp2_with fail
 refine Calls.mono HLx.out ?_
 rintro e w2 ⟨ao,n,c,ts,a1,f,rfl,hts,hlx,hb2⟩
 have hB2 := Below.on hB0 hb2
 clear HLx hB0 hb2
 by_cases h4 : 400 < X.size
 ·have hf : f = 7 := by
   rcases hlx with ⟨_,_,_,e⟩ | ⟨e,_⟩
   ·exact e
   ·omega
  subst hf
  clear hg hlx hts
  go_wp2
  go_ret
  exact ⟨rfl,hB2⟩
 obtain ⟨hte,rfl,rfl⟩ := hg.lex (by omega) hlx
 have hfew := lex_few hlx
 have HT1 : Hid _ := hid (hg.told' (by omega))
 have HT2 : Hid (∀ s : ByteArray,bs s = TT d (pcF m) (pcF m).length → s.size ≤ 400 → _) := hid fun s hs hz => hg.spaces hs hz
 have hlen : (ren (pcF m)).length = X.size := by rw [← hg.text,bs_length]
 have HTok : Hid (∀ i,i ≤ (pcF m).length → (tth ts i).2.2.2 = ((atP (pcF m) i : Nat) : Int)) := hid fun i hi => by rw [hte]; exact tok_at hlen hi
 have HSt : Hid (∀ i,i < (pcF m).length → atP (pcF m) i ≤ atP (pcF m) (i + 1) ∧ atP (pcF m) (i + 1) ≤ X.size ∧ ∀ S : ByteArray,bs S = TT d (pcF m) i → bs ((S ++ X.extract (atP (pcF m) i) (atP (pcF m) (i + 1))) ++ M) = TT d (pcF m) (i + 1)) := hid fun i hi => by
  obtain ⟨p1,p2,p3⟩ := piece_at hg.text hi
  exact ⟨p1,p2,fun S hS => by rw [TT_step hi,bs_app,bs_app,hS,HMs.out,p3,bs_mk]⟩
 have HT0 : Hid _ := hid (TT_zero (k := d) (head0 m))
 have hn : n = (pcF m).length + 1 := by rw [← hts.len,hte,List.length_append,tks_len]; rfl
 have hnf : (pcF m).length ≤ 402 := by have := hts.len; omega
 have hpos : 0 < n := by omega
 obtain ⟨b,o,rfl,hct⟩ := hts.cells hpos
 have hnc := hts.cap
 have hmc := hts.max
 have hX4 : X.size ≤ 400 := by omega
 clear hg hlx hte hfew hlen h4
 obtain ⟨N,hN⟩ : ∃ N,(pcF m).length = N := ⟨_,rfl⟩
 rw [hN] at HT2 HTok HSt hn hnf
 subst hn
 have HCt : Hid (∀ i,i ≤ N → ∀ w',Below w2.heap.size w2 w' → w'.cell? ⟨b,o + i * 4 + 3,none⟩ = some (.int .i64 ((atP (pcF m) i : Nat) : Int))) := hid fun i hi w' hb => by
  have := (hct i (by omega)).2.2.2
  rw [HTok.out i hi] at this
  exact cell_later hb this
 clear hct hts HTok hpos
 go_upto_block 2 with fail
 go_cut [11,12] (fun v11 v12 w' => ∃ S,v11 = .string S ∧ bs S = TT d (pcF m) N ∧ S.size ≤ 200000 ∧ Below w2.heap.size w2 w')
 case first =>
  go_wp2
  go_loopw [11,12] (fun v11 v12 wr => ∃ (i : Nat) (S : ByteArray),i ≤ N ∧ v11 = .string S ∧ v12 = .int .i64 i ∧ Hid (bs S = TT d (pcF m) i) ∧ S.size ≤ 3 + i * 410 ∧ Below w2.heap.size w2 wr) (fun _ v12 _ => N - (intOf v12).toNat)
  case atStart => exact ⟨0,M,Nat.zero_le _,rfl,rfl,hid (by rw [HMs.out,HT0.out]),by omega,Below.refl _ _⟩
  case round =>
   obtain ⟨i,S,hi,rfl,rfl,HS,hzS,hb⟩ := hrel
   have hiN : i * 410 ≤ 402 * 410 := Nat.mul_le_mul (by omega) (Nat.le_refl _)
   have hwi : IntKind.i64.wrap ((i : Int) + 1) = (i : Int) + 1 := by rw [IntKind.wrap_i64]; omega
   by_cases hlt : i < N
   ·obtain ⟨i1,hi1⟩ : ∃ i1 : Nat,i1 = i + 1 := ⟨_,rfl⟩
    have hi1' : (i : Int) + 1 = (i1 : Int) := by omega
    have gi : decide ((i : Int) + 1 < ((N : Int) + 1)) = true := by simp; omega
    have gi2 : decide ((i1 : Int) < ((N : Int) + 1)) = true := by simp; omega
    have hwi2 : IntKind.i64.wrap (i1 : Int) = (i1 : Int) := by rw [IntKind.wrap_i64]; omega
    have j0 : (0 : Int) ≤ (i : Int) := by omega
    have j1 : (i : Int) < (N : Int) + 1 := by omega
    have j2 : (0 : Int) ≤ (i1 : Int) := by omega
    have j3 : (i1 : Int) < (N : Int) + 1 := by omega
    obtain ⟨p1,p2,p3⟩ := HSt.out i (by omega)
    obtain ⟨P,hP⟩ : ∃ P,atP (pcF m) i = P := ⟨_,rfl⟩
    obtain ⟨Q,hQ⟩ : ∃ Q,atP (pcF m) (i + 1) = Q := ⟨_,rfl⟩
    rw [hP,hQ] at p1 p3
    rw [hQ] at p2
    have hsl := str_slice X (by omega) P Q p1 p2
    obtain ⟨D,hD⟩ : ∃ D,X.extract P Q = D := ⟨_,rfl⟩
    rw [hD] at hsl p3
    have hzD : D.size ≤ 400 := by rw [← hD]; have := extract_size X P Q; omega
    have HBS : Hid (bs ((S ++ D) ++ M) = TT d (pcF m) (i + 1)) := hid (p3 S HS.out)
    have c1 : ∀ w',Below w2.heap.size w2 w' → w'.cell? ⟨b,o + i * 4 + 3,none⟩ = some (.int .i64 (P : Int)) := fun w' hb => by rw [← hP]; exact HCt.out i (by omega) w' hb
    have c2 : ∀ w',Below w2.heap.size w2 w' → w'.cell? ⟨b,o + i1 * 4 + 3,none⟩ = some (.int .i64 (Q : Int)) := fun w' hb => by rw [← hQ,hi1]; exact HCt.out (i + 1) (by omega) w' hb
    have HCs : Hid _ := hid (And.intro c1 c2)
    have z0 : ¬ 9223372036854775807 < S.size + D.size := by omega
    have z1 : ¬ 9223372036854775807 < S.size + D.size + M.size := by omega
    have hzn : ((S ++ D) ++ M).size ≤ 3 + (i + 1) * 410 := by rw [ByteArray.size_append,ByteArray.size_append]; omega
    have HI1 : Hid _ := hid hi1
    clear hi1 p1 p2 p3 hD hP hQ c1 c2 HSt HS HCt
    have hC : Below w2.heap.size w2 wr.drew := hb.drew
    go_upto_region 18 with fail
    go_region_held (fun w' => w'.cell? ⟨b,o + i * 4 + 3,none⟩ = some (.int .i64 (P : Int)) ∧ w'.cell? ⟨b,o + i1 * 4 + 3,none⟩ = some (.int .i64 (Q : Int))) (exact ⟨HCs.out.1 _ hC,HCs.out.2 _ hC⟩) (fail)
    all_goals
     clear HCs hsl
     go_wp2
     go_roundw
     case rel => exact ⟨i + 1,(S ++ D) ++ M,by omega,rfl,by go_num,HBS,hzn,hC⟩
     case measure => simp only [intOf]; omega
   ·obtain rfl : i = N := by omega
    have gi : decide ((i : Int) + 1 < ((i : Int) + 1)) = false := by simp
    clear HSt HCt HT0
    go_wp2_with fail
    go_meet
    exact ⟨S,rfl,HS.out,by omega,hb⟩
 case rest =>
 obtain ⟨S,rfl,hS,hzS,hb3⟩ := hcut
 have hB3 := Below.on hB2 hb3
 clear HSt HCt HT0 HMs hB2 hb3
 by_cases h4 : 400 < S.size
 ·have g4 : decide ((400 : Int) < (S.size : Int)) = true := by simp; omega
  have g5 : decide (400 < S.size) = true := by simpa using h4
  clear HT1 HT2 hS
  go_wp2
  go_ret
  exact ⟨rfl,hB3⟩
 have g4 : decide ((400 : Int) < (S.size : Int)) = false := by simp; omega
 have g5 : decide (400 < S.size) = false := by simpa using h4
 have HT3 : Hid _ := hid (HT2.out S hS (by omega))
 clear HT2 hS
 generalize wc = we at *
 have HPc : Hid _ := hid (parseStmt_any X (by omega) we)
 go_upto_region 21 with fail
 go_cut [13,15] (fun v5 v7 w' => ∃ q5 sv,v5 = .pointer (some ⟨q5,0,none⟩) ∧ v7 = .int .i64 0 ∧ Bs w' q5 sv ∧ IsS (fun b => True) w' m.1 sv ∧ RowIs eStmt (fun b => True) w' (slV sv.inn) m.2 ∧ Below we.heap.size we w')
 case first =>
  go_wp2_with fail
  refine Calls.mono HPc.out ?_
  rintro e w7 ⟨sv,Y,at1,f,rfl,hb7,hp,-,hxx⟩
  obtain ⟨rfl,rfl⟩ := HT1.out _ _ _ hp
  obtain ⟨i1,i2⟩ := hxx _ rfl
  obtain ⟨tk,ttb,tnm,tco,tta,tva,tit,tjn,ton,twh,tod,tds,tinn⟩ := sv
  have T2 := bal (Below.refl _ w7) (svO ⟨tk,ttb,tnm,tco,tta,tva,tit,tjn,ton,twh,tod,tds,tinn⟩)
  have T : Hid _ := hid (And.intro (Bs.new w7 ⟨tk,ttb,tnm,tco,tta,tva,tit,tjn,ton,twh,tod,tds,tinn⟩) (And.intro ((i1.mono (Q' := fun _ => True) fun _ _ _ => trivial).keep fun b _ hl => T2.block b hl) (And.intro ((i2.mono (by decide) (Q' := fun _ => True) fun _ _ _ => trivial).keep (by decide) fun b _ hl => T2.block b hl) (Below.on hb7 T2))))
  clear HPc hb7 hp hxx i1 i2 T2
  unfold stV
  dsimp only
  go_wp2_with fail
  go_meet
  exact ⟨_,_,rfl,rfl,T.out.1,T.out.2.1,T.out.2.2.1,T.out.2.2.2⟩
 case rest =>
 obtain ⟨q5,s5,rfl,rfl,hq5,i5,r5,hb5⟩ := hcut
 have hB5 := Below.on hB3 hb5
 clear HPc hB3 hb5 HT1
 generalize wc = wf at *
 have HPc : Hid _ := hid (parseStmt_any S (by omega) wf)
 go_upto_region 22 with fail
 go_cut [16,18] (fun v5 v7 w' => ∃ q5 sv,v5 = .pointer (some ⟨q5,0,none⟩) ∧ v7 = .int .i64 0 ∧ Bs w' q5 sv ∧ IsS (fun b => True) w' m.1 sv ∧ RowIs eStmt (fun b => True) w' (slV sv.inn) m.2 ∧ Below wf.heap.size wf w')
 case first =>
  go_wp2_with fail
  refine Calls.mono HPc.out ?_
  rintro e w7 ⟨sv,Y,at1,f,rfl,hb7,hp,-,hxx⟩
  obtain ⟨rfl,rfl⟩ := HT3.out _ _ _ hp
  obtain ⟨i1,i2⟩ := hxx _ rfl
  obtain ⟨tk,ttb,tnm,tco,tta,tva,tit,tjn,ton,twh,tod,tds,tinn⟩ := sv
  have T2 := bal (Below.refl _ w7) (svO ⟨tk,ttb,tnm,tco,tta,tva,tit,tjn,ton,twh,tod,tds,tinn⟩)
  have T : Hid _ := hid (And.intro (Bs.new w7 ⟨tk,ttb,tnm,tco,tta,tva,tit,tjn,ton,twh,tod,tds,tinn⟩) (And.intro ((i1.mono (Q' := fun _ => True) fun _ _ _ => trivial).keep fun b _ hl => T2.block b hl) (And.intro ((i2.mono (by decide) (Q' := fun _ => True) fun _ _ _ => trivial).keep (by decide) fun b _ hl => T2.block b hl) (Below.on hb7 T2))))
  clear HPc hb7 hp hxx i1 i2 T2
  unfold stV
  dsimp only
  go_wp2_with fail
  go_meet
  exact ⟨_,_,rfl,rfl,T.out.1,T.out.2.1,T.out.2.2.1,T.out.2.2.2⟩
 case rest =>
 obtain ⟨q6,s6,rfl,rfl,hq6,i6,r6,hb6⟩ := hcut
 have hB6 := Below.on hB5 hb6
 have hq7 := hq5.later hb6
 have i7 : IsS (fun b => True) wc m.1 _ := i5.keep fun b _ hl => hb6.block b hl
 have r7 : RowIs eStmt (fun b => True) wc _ m.2 := r5.keep (by decide) fun b _ hl => hb6.block b hl
 have HSS : Hid _ := hid (sameStmt_any i7 r7 i6 r6)
 obtain ⟨sk,stb,snm,sco,sta,sva,sit,sjn,son,swh,sod,sds,sinn⟩ := s5
 obtain ⟨tk,ttb,tnm,tco,tta,tva,tit,tjn,ton,twh,tod,tds,tinn⟩ := s6
 have cq := hq7.cells
 have cp := hq6.cells
 have k0 := cq.1
 have k1 := cq.2.1
 have k2 := cq.2.2.1
 have k3 := cq.2.2.2.1
 have k4 := cq.2.2.2.2.1
 have k5 := cq.2.2.2.2.2.1
 have k6 := cq.2.2.2.2.2.2.1
 have k7 := cq.2.2.2.2.2.2.2.1
 have k8 := cq.2.2.2.2.2.2.2.2.1
 have k9 := cq.2.2.2.2.2.2.2.2.2.1
 have k10 := cq.2.2.2.2.2.2.2.2.2.2.1
 have k11 := cq.2.2.2.2.2.2.2.2.2.2.2.1
 have k12 := cq.2.2.2.2.2.2.2.2.2.2.2.2
 have d0 := cp.1
 have d1 := cp.2.1
 have d2 := cp.2.2.1
 have d3 := cp.2.2.2.1
 have d4 := cp.2.2.2.2.1
 have d5 := cp.2.2.2.2.2.1
 have d6 := cp.2.2.2.2.2.2.1
 have d7 := cp.2.2.2.2.2.2.2.1
 have d8 := cp.2.2.2.2.2.2.2.2.1
 have d9 := cp.2.2.2.2.2.2.2.2.2.1
 have d10 := cp.2.2.2.2.2.2.2.2.2.2.1
 have d11 := cp.2.2.2.2.2.2.2.2.2.2.2.1
 have d12 := cp.2.2.2.2.2.2.2.2.2.2.2.2
 clear HPc HT3 hq5 hq6 hq7 i5 i6 i7 r5 r6 r7 cq cp hB5 hb6
 unfold stV at HSS
 dsimp only at HSS k0 k1 k2 k3 k4 k5 k6 k7 k8 k9 k10 k11 k12 d0 d1 d2 d3 d4 d5 d6 d7 d8 d9 d10 d11 d12
 go_wp2_with fail
 refine Calls.mono HSS.out ?_
 rintro e u ⟨rfl,hbu⟩
 have hBu := Below.on hB6 hbu
 clear HSS hbu
 go_wp2
 go_ret
 exact ⟨rfl,hBu⟩
end Go.Proofs.YtfopfhlohihihaaGreat
