import Derived.Test.YtnboooaockgoiaaGreatDoorPbk
import Derived.Test.YtnboooaockgoiaaGreatDoorPbi
import Derived.Test.YtnboooaockgoiaaGreatDoorPbc
import Derived.Test.YtnboooaockgoiaaGreatDoorPar
import Derived.Test.YtnboooaockgoiaaGreatDoorPas
import Derived.Test.YtnboooaockgoiaaGreatDoorPat
namespace Go.Proofs.YtnboooaockgoiaaGreatDoor
open Go.RowKit
set_option linter.unusedVariables false
set_option linter.unusedSimpArgs false

/-- One space at most. -/
def AllS (l : List Pc) : Prop := ∀ p ∈ l, p.1 ≤ 1
theorem AllS.nil : AllS [] := fun p h => absurd h (by simp)
theorem AllS.cons {k : Nat} {w : Wd} {l : List Pc} (hk : k ≤ 1) (h : AllS l) : AllS ((k, w) :: l) := fun p hp => by
  rcases List.mem_cons.1 hp with rfl | hp
  · exact hk
  · exact h p hp
theorem AllS.app {l m : List Pc} (h : AllS l) (h' : AllS m) : AllS (l ++ m) := fun p hp => (List.mem_append.1 hp).elim (h p) (h' p)
theorem sp_e (t : Tr) : ∀ k, k ≤ 1 → AllS (pcE k t) := by
  induction t with
  | nil => intro k _; exact AllS.nil
  | node x op p l r ihl ihr =>
    intro k hk
    have h0 : (0 : Nat) ≤ 1 := by decide
    have h1 : (1 : Nat) ≤ 1 := by decide
    rw [pcE]
    split
    · exact AllS.cons hk AllS.nil
    split
    · split
      · exact AllS.cons hk AllS.nil
      · exact AllS.cons hk (AllS.cons h0 (AllS.cons h0 AllS.nil))
    split
    · exact AllS.cons hk (AllS.cons h0 ((ihl 0 h0).app (AllS.cons h0 AllS.nil)))
    split
    · exact AllS.cons hk (AllS.cons h0 ((ihl 1 h1).app (AllS.cons h0 AllS.nil)))
    · exact AllS.cons hk ((ihl 0 h0).app (AllS.cons h1 ((ihr 1 h1).app (AllS.cons h0 AllS.nil))))
theorem sp_jpT {α : Type} {g : Nat → α → List Pc} (hg : ∀ k y, k ≤ 1 → AllS (g k y)) : ∀ l, AllS (jpT g l)
  | [] => AllS.nil
  | y :: l => AllS.cons (by decide) ((hg 1 y (by decide)).app (sp_jpT hg l))
theorem sp_jp {α : Type} {g : Nat → α → List Pc} (hg : ∀ k y, k ≤ 1 → AllS (g k y)) {k : Nat} (hk : k ≤ 1) : ∀ l, AllS (jp g k l)
  | [] => AllS.nil
  | y :: l => (hg k y hk).app (sp_jpT hg l)
theorem sp_col (k : Nat) (c : Co) (hk : k ≤ 1) : AllS (pcCol k c) := by
  unfold pcCol
  refine AllS.cons hk (AllS.cons (by decide) ?_)
  split
  · exact AllS.nil
  · exact AllS.cons (by decide) (AllS.cons (by decide) AllS.nil)
theorem sp_tag (k : Nat) (z : Int) (hk : k ≤ 1) : AllS (pcTag k z) := AllS.cons hk AllS.nil
theorem sp_item (k : Nat) (x : It) (hk : k ≤ 1) : AllS (pcItem k x) := by
  unfold pcItem
  split
  · exact sp_e _ k hk
  split
  · exact AllS.cons hk (AllS.cons (by decide) (AllS.cons (by decide) (AllS.cons (by decide) AllS.nil)))
  · exact AllS.cons hk (AllS.cons (by decide) ((sp_e _ 0 (by decide)).app (AllS.cons (by decide) AllS.nil)))
theorem sp_wh : ∀ l, AllS (pcWh l)
  | [] => AllS.nil
  | t :: _ => AllS.cons (by decide) (sp_e t 1 (by decide))
theorem sp_star (l : List It) : AllS (pcStar l) := by
  unfold pcStar
  split
  · exact AllS.cons (by decide) AllS.nil
  · exact sp_jp sp_item (by decide) l
theorem sp_join (j : ByteArray) : ∀ l, AllS (pcJoin j l)
  | [] => AllS.nil
  | [_] => AllS.nil
  | a :: b :: _ => AllS.cons (by decide) (AllS.cons (by decide) (AllS.cons (by decide) ((sp_e a 1 (by decide)).app (AllS.cons (by decide) (sp_e b 1 (by decide))))))
theorem sp_ord (d : Bool) : ∀ l, AllS (pcOrd d l)
  | [] => AllS.nil
  | t :: _ => AllS.cons (by decide) (AllS.cons (by decide) ((sp_e t 1 (by decide)).app (by
    split
    · exact AllS.cons (by decide) AllS.nil
    · exact AllS.nil)))
theorem sp_val : ∀ l, AllS (pcVal l)
  | [] => AllS.nil
  | t :: _ => sp_e t 1 (by decide)
theorem sp_s (k : Nat) (m : Sm) (hk : k ≤ 1) : AllS (pcS k m) := by
  unfold pcS
  split
  · exact AllS.cons hk (AllS.cons (by decide) (AllS.cons (by decide) (AllS.cons (by decide) (AllS.cons (by decide) ((sp_jp (fun k t hk => sp_e t k hk) (by decide) _).app (AllS.cons (by decide) AllS.nil))))))
  split
  · exact AllS.cons hk ((sp_star _).app (AllS.cons (by decide) (AllS.cons (by decide) ((sp_join _ _).app ((sp_wh _).app (sp_ord _ _))))))
  split
  · exact AllS.cons hk (AllS.cons (by decide) (AllS.cons (by decide) (AllS.cons (by decide) (AllS.cons (by decide) ((sp_val _).app (sp_wh _))))))
  · exact AllS.cons hk (AllS.cons (by decide) (AllS.cons (by decide) (sp_wh _)))
theorem sp_door (m : Sm) : ∀ l, AllS (pcDoor m l)
  | [] => AllS.nil
  | x :: _ => AllS.cons (by decide) (AllS.cons (by decide) ((sp_jp sp_tag (by decide) _).app (AllS.cons (by decide) (sp_s 1 x (by decide)))))
theorem sp_f (m : Sf) : AllS (pcF m) := by
  unfold pcF
  split
  · exact AllS.cons (by decide) (AllS.cons (by decide) (AllS.cons (by decide) (AllS.cons (by decide) ((sp_jp sp_col (by decide) _).app (AllS.cons (by decide) AllS.nil)))))
  split
  · exact AllS.cons (by decide) (AllS.cons (by decide) (AllS.cons (by decide) (AllS.cons (by decide) (AllS.cons (by decide) (AllS.cons (by decide) (AllS.cons (by decide) AllS.nil))))))
  split
  · exact AllS.cons (by decide) (AllS.cons (by decide) (sp_door _ _))
  split
  · exact AllS.cons (by decide) (AllS.cons (by decide) (sp_door _ _))
  split
  · exact AllS.cons (by decide) AllS.nil
  split
  · exact AllS.cons (by decide) AllS.nil
  split
  · exact AllS.cons (by decide) AllS.nil
  split
  · exact AllS.cons (by decide) (sp_jp sp_tag (by decide) _)
  split
  · exact AllS.cons (by decide) (AllS.cons (by decide) AllS.nil)
  · exact sp_s 0 _ (by decide)
theorem wdB_len {w : Wd} (h : WdOK w) : (wdB w).length ≤ 62 := by
  rcases h with ⟨c, n, _, _, hn, rfl⟩ | ⟨z, hz, rfl⟩ | ⟨q, _, hq, rfl⟩ | ⟨c, _, rfl⟩ | ⟨c, n, hn, rfl⟩
  · have e : wdB ((if isW ⟨(c :: n).toArray⟩ then 2 else 1 : Int), ⟨(c :: n).toArray⟩, 0) = c :: n := by
      unfold wdB
      dsimp only
      rw [if_neg (by split <;> decide), if_neg (by split <;> decide), bs_mk]
    rw [e, List.length_cons]
    omega
  · have e : wdB (3, ⟨#[]⟩, (z : Int)) = Lib.decDigits z := by
      unfold wdB
      rw [if_pos rfl]
      simp
    rw [e, ← Int.toNat_natCast z, ← itoa_nn (by omega)]
    have := Lib.itoa_length_le (z : Int) hz.1 hz.2
    omega
  · have e : wdB (4, ⟨q.toArray⟩, 0) = 39 :: (dblQ q ++ [39]) := by
      unfold wdB
      rw [if_neg (show ¬ (4 : Int) = 3 by decide), if_pos rfl, bs_mk]
    rw [e, List.length_cons, List.length_append, List.length_singleton]
    have := dblQ_len q
    omega
  · show 1 ≤ 62
    decide
  · have e : wdB (5, ⟨(c :: n).toArray⟩, 0) = c :: n := by
      unfold wdB
      rw [if_neg (show ¬ (5 : Int) = 3 by decide), if_neg (show ¬ (5 : Int) = 4 by decide), bs_mk]
    rw [e]
    rcases hn with ⟨_, rfl⟩ | ⟨_, rfl | rfl⟩ | ⟨_, rfl⟩ <;> simp
theorem ren_len : ∀ {l : List Pc}, AllP l → AllS l → (ren l).length ≤ 63 * l.length
  | [], _, _ => Nat.zero_le _
  | p :: l, h, h' => by
    have h1 := ren_len (l := l) (fun q hq => h q (by simp [hq])) (fun q hq => h' q (by simp [hq]))
    have h2 := wdB_len (h p (by simp))
    have h3 := h' p (by simp)
    rw [ren_cons, List.length_append, List.length_append, List.length_replicate, List.length_cons]
    omega
/-- What Parse makes of a text. -/
theorem parse_made {s : ByteArray} {Y : Option Sf} {a : Int} (h : PaR s Y a 0) : ∃ m X, Y = some m ∧ SfOK True m ∧ AllP (pcF m) ∧ bs X = ren (pcF m) ∧ X.size ≤ 200000 := by
  obtain ⟨ts, b, e, hL, h⟩ := h
  rcases h with ⟨he, _, _, rfl⟩ | ⟨he, ⟨x, _, _, _, rfl', hx⟩ | ⟨m, r, hp, rfl, _, _⟩⟩
  · exact absurd rfl he
  · exact absurd rfl hx
  · obtain ⟨hend, hlen, _⟩ := hL.ended he
    obtain ⟨_, u, hG, hu⟩ := md_stmt ts m r (lex_ok hL) ((end_run ts).2 m r hp)
    have h1 : (pcF m).length ≤ 1500 := by have := hG.2.2; omega
    have h2 := ren_len hG.2.1 (sp_f m)
    refine ⟨m, ⟨(ren (pcF m)).toArray⟩, rfl, hG.1, hG.2.1, bs_mk _, ?_⟩
    show (ren (pcF m)).toArray.size ≤ _
    rw [List.size_toArray]
    omega
/-- What Parse tells of a statement's own text. -/
theorem told_got {m : Sf} (h : SfOK True m) (hp : AllP (pcF m)) {X : ByteArray} (hX : bs X = ren (pcF m)) : ∀ Y a f, PaR X Y a f → f = 7 ∨ f = 6 ∨ (f = 0 ∧ Y = some m) := by
  intro Y a f hP
  obtain ⟨ts, b, e, h1, h2⟩ := hP
  by_cases h4 : X.size ≤ 400
  · obtain ⟨rfl, rfl, rfl⟩ := (lexR_pcs (j := 0) (Fl.of (ad_f m) hp.words) (by rw [hX]; simp) h4).det h1
    rcases h2 with ⟨he, _⟩ | ⟨_, h2⟩
    · exact absurd rfl he
    · rcases parse_got h (l := pcF m) rfl (X.size : Int) with hg | ⟨_, z, hg⟩
      · rcases h2 with ⟨x, hx, _⟩ | ⟨m', r, hx, rfl, _, rfl⟩
        · rw [hg] at hx; cases hx
        · rw [hg] at hx; cases hx
          exact .inr (.inr ⟨rfl, rfl⟩)
      · rcases h2 with ⟨x, hx, _, _, rfl, _⟩ | ⟨m', r, hx, _⟩
        · rw [hg] at hx; cases hx
          exact .inr (.inl rfl)
        · rw [hg] at hx; cases hx
  · rcases h1 with ⟨_, rfl, rfl, rfl⟩ | ⟨h1, _⟩
    · rcases h2 with ⟨_, _, _, rfl⟩ | ⟨he, _⟩
      · exact .inl rfl
      · cases he
    · exact absurd h1 h4

end Go.Proofs.YtnboooaockgoiaaGreatDoor
namespace Go.Proofs.YtnboooaockgoiaaGreatDoor
open Go.RowKit
set_option linter.unusedVariables false
set_option linter.unusedSimpArgs false

set_option maxRecDepth 100000 in
set_option maxHeartbeats 8000000 in
theorem showParsed_any (s : ByteArray) (hs : s.size ≤ 9223372036854775807) {w : World} (he : Ev w.heap.size w) :
    Calls Tryz.prog 5 #[.string s] w fun e w' => e = .returned (.bool true) ∧ Below w.heap.size w w' := by
  have HB : Hid _ := hid (begun8_any he)
  have HEv : Hid (∀ w', Below w.heap.size w w' → Ev w'.heap.size w') := hid fun w' hb => he.up2 hb hb.size
  clear he
  go_enter Tryz.func5, Tryz.ntmps5
  go_wp2_with fail
  refine Calls.mono HB.out ?_
  rintro e w1 ⟨rfl, hb1⟩
  clear HB
  by_cases h4 : 400 < s.size
  · have g4 : decide ((400 : Int) < (s.size : Int)) = true := by simp; omega
    have g5 : decide (400 < s.size) = true := by simpa using h4
    go_wp2
    go_ret
    exact ⟨rfl, hb1⟩
  have g4 : decide ((400 : Int) < (s.size : Int)) = false := by simp; omega
  have g5 : decide (400 < s.size) = false := by simpa using h4
  have HP1 : Hid _ := hid (refStmt_any s hs w1)
  go_upto_region 5 with fail
  go_cut [3, 5] (fun v3 v5 w' => ∃ q5 sv Y a5 f, v3 = .pointer (some ⟨q5, 0, none⟩) ∧ v5 = .int .i64 f ∧ PaR s Y a5 f ∧ Bs w' q5 sv ∧ (∀ y, Y = some y → IsS (fun b => True) w' y.1 sv ∧ RowIs eStmt (fun b => True) w' (slV sv.inn) y.2) ∧ Below w1.heap.size w1 w')
  case first =>
    go_wp2_with fail
    refine Calls.mono HP1.out ?_
    rintro e w7 ⟨sv, Y, at1, f, rfl, hb7, hp, -, hxx⟩
    obtain ⟨pk, ptb, pnm, pco, pta, pva, pit, pjn, pon, pwh, pod, pds, pinn⟩ := sv
    have T2 := bal (Below.refl _ w7) (svO ⟨pk, ptb, pnm, pco, pta, pva, pit, pjn, pon, pwh, pod, pds, pinn⟩)
    have hyy : ∀ y, Y = some y → IsS (fun b => True) (w7.alloc (svO ⟨pk, ptb, pnm, pco, pta, pva, pit, pjn, pon, pwh, pod, pds, pinn⟩)) y.1 ⟨pk, ptb, pnm, pco, pta, pva, pit, pjn, pon, pwh, pod, pds, pinn⟩ ∧ RowIs eStmt (fun b => True) (w7.alloc (svO ⟨pk, ptb, pnm, pco, pta, pva, pit, pjn, pon, pwh, pod, pds, pinn⟩)) (slV pinn) y.2 := fun y hy => by
      obtain ⟨i1, i2⟩ := hxx y hy
      exact ⟨(i1.mono fun _ _ _ => trivial).keep fun b _ hl => T2.block b hl, (i2.mono (by decide) fun _ _ _ => trivial).keep (by decide) fun b _ hl => T2.block b hl⟩
    have T : Hid _ := hid (And.intro (Bs.new w7 ⟨pk, ptb, pnm, pco, pta, pva, pit, pjn, pon, pwh, pod, pds, pinn⟩) (And.intro hyy (Below.on hb7 T2)))
    have HPa : Hid _ := hid hp
    clear HP1 hb7 hp hxx hyy T2 
    unfold stV
    dsimp only
    go_wp2_with fail
    go_meet
    exact ⟨_, _, Y, at1, f, rfl, rfl, HPa.out, T.out.1, T.out.2.1, T.out.2.2⟩
  case rest =>
  obtain ⟨q3, sv, Y, a5, f, rfl, rfl, hp, hq3, hyy, hb5⟩ := hcut
  have hB5 := Below.on hb1 hb5
  clear HP1 hb1 hb5 g4 g5 h4
  by_cases hf : f ≠ 0
  · have g0 : (f == 0) = false := by simpa using hf
    have g1 : (f != 0) = true := by simpa using hf
    clear hp hyy hq3
    go_wp2
    go_ret
    exact ⟨rfl, hB5⟩
  obtain rfl : f = 0 := Decidable.not_not.1 hf
  clear hf
  obtain ⟨m, X, rfl, hsf, hpc, hX, hz⟩ := parse_made hp
  obtain ⟨hI, hR⟩ := hyy m rfl
  have hwl := whl_of hsf hpc
  have HSh : Hid (∀ w' s', Below w.heap.size w w' → IsS (fun b => True) w' m.1 s' → RowIs eStmt (fun b => True) w' (slV s'.inn) m.2 → _) := hid fun w' s' hb i1 i2 => showS_any (HEv.out w' hb) i1 i2 hwl hsf hpc hX (by omega)
  have HT : Hid _ := hid (told_got hsf hpc hX)
  clear hp hyy hsf hpc hX hwl HEv
  obtain ⟨sk, stb, snm, sco, sta, sva, sit, sjn, son, swh, sod, sds, sinn⟩ := sv
  have c0 := hq3.c0
  have c1 := hq3.c1
  have c2 := hq3.c2
  have c3 := hq3.c3
  have c4 := hq3.c4
  have c5 := hq3.c5
  have c6 := hq3.c6
  have c7 := hq3.c7
  have c8 := hq3.c8
  have c9 := hq3.c9
  have c10 := hq3.c10
  have c11 := hq3.c11
  have c12 := hq3.c12
  have H1 := HSh.out _ _ hB5 hI hR
  unfold stV at H1
  dsimp only at H1 c0 c1 c2 c3 c4 c5 c6 c7 c8 c9 c10 c11 c12
  replace H1 : Hid _ := hid H1
  go_wp2_with fail
  refine Calls.mono H1.out ?_
  rintro e w6 ⟨rfl, hb6⟩
  have hq6 := hq3.later hb6
  have hI6 : IsS (fun b => True) w6 m.1 _ := hI.keep fun b _ hl => hb6.block b hl
  have hR6 : RowIs eStmt (fun b => True) w6 _ m.2 := hR.keep (by decide) fun b _ hl => hb6.block b hl
  have hB6 := Below.on hB5 hb6
  clear H1 hq3 hI hR hB5 hb6 c0 c1 c2 c3 c4 c5 c6 c7 c8 c9 c10 c11 c12
  have HP2 : Hid _ := hid (refStmt_any X (by omega) w6)
  go_upto_region 9 with fail
  go_cut [7, 9] (fun v7 v9 w' => ∃ q5 sv Y a5 f, v7 = .pointer (some ⟨q5, 0, none⟩) ∧ v9 = .int .i64 f ∧ PaR X Y a5 f ∧ Bs w' q5 sv ∧ (∀ y, Y = some y → IsS (fun b => True) w' y.1 sv ∧ RowIs eStmt (fun b => True) w' (slV sv.inn) y.2) ∧ Below w6.heap.size w6 w')
  case first =>
    go_wp2_with fail
    refine Calls.mono HP2.out ?_
    rintro e w7 ⟨sv, Y, at1, f, rfl, hb7, hp, -, hxx⟩
    obtain ⟨tk, ttb, tnm, tco, tta, tva, tit, tjn, ton, twh, tod, tds, tinn⟩ := sv
    have T2 := bal (Below.refl _ w7) (svO ⟨tk, ttb, tnm, tco, tta, tva, tit, tjn, ton, twh, tod, tds, tinn⟩)
    have hyy : ∀ y, Y = some y → IsS (fun b => True) (w7.alloc (svO ⟨tk, ttb, tnm, tco, tta, tva, tit, tjn, ton, twh, tod, tds, tinn⟩)) y.1 ⟨tk, ttb, tnm, tco, tta, tva, tit, tjn, ton, twh, tod, tds, tinn⟩ ∧ RowIs eStmt (fun b => True) (w7.alloc (svO ⟨tk, ttb, tnm, tco, tta, tva, tit, tjn, ton, twh, tod, tds, tinn⟩)) (slV tinn) y.2 := fun y hy => by
      obtain ⟨i1, i2⟩ := hxx y hy
      exact ⟨(i1.mono fun _ _ _ => trivial).keep fun b _ hl => T2.block b hl, (i2.mono (by decide) fun _ _ _ => trivial).keep (by decide) fun b _ hl => T2.block b hl⟩
    have T : Hid _ := hid (And.intro (Bs.new w7 ⟨tk, ttb, tnm, tco, tta, tva, tit, tjn, ton, twh, tod, tds, tinn⟩) (And.intro hyy (Below.on hb7 T2)))
    have HPa : Hid _ := hid hp
    clear HP2 hb7 hp hxx hyy T2 HT HSh hq6 hI6 hR6
    unfold stV
    dsimp only
    go_wp2_with fail
    go_meet
    exact ⟨_, _, Y, at1, f, rfl, rfl, HPa.out, T.out.1, T.out.2.1, T.out.2.2⟩
  case rest =>
  obtain ⟨q7, tv, Y, a7, f, rfl, rfl, hp, hq7, hyy, hb7⟩ := hcut
  have hq3 := hq6.later hb7
  have hI : IsS (fun b => True) wc m.1 _ := hI6.keep fun b _ hl => hb7.block b hl
  have hR : RowIs eStmt (fun b => True) wc _ m.2 := hR6.keep (by decide) fun b _ hl => hb7.block b hl
  have hB := Below.on hB6 hb7
  have ht := HT.out _ _ _ hp
  clear HP2 hq6 hI6 hR6 hB6 hb7 hp HT
  rcases ht with rfl | rfl | ⟨rfl, rfl⟩
  · clear hyy hI hR hq3 hq7 HSh
    go_wp2
    go_ret
    exact ⟨rfl, hB⟩
  · clear hyy hI hR hq3 hq7 HSh
    go_wp2
    go_ret
    exact ⟨rfl, hB⟩
  obtain ⟨j1, j2⟩ := hyy m rfl
  have H2 := sameStmt_any j1 j2 hI hR
  clear hyy
  obtain ⟨tk, ttb, tnm, tco, tta, tva, tit, tjn, ton, twh, tod, tds, tinn⟩ := tv
  have c0 := hq3.c0
  have c1 := hq3.c1
  have c2 := hq3.c2
  have c3 := hq3.c3
  have c4 := hq3.c4
  have c5 := hq3.c5
  have c6 := hq3.c6
  have c7 := hq3.c7
  have c8 := hq3.c8
  have c9 := hq3.c9
  have c10 := hq3.c10
  have c11 := hq3.c11
  have c12 := hq3.c12
  have d0 := hq7.c0
  have d1 := hq7.c1
  have d2 := hq7.c2
  have d3 := hq7.c3
  have d4 := hq7.c4
  have d5 := hq7.c5
  have d6 := hq7.c6
  have d7 := hq7.c7
  have d8 := hq7.c8
  have d9 := hq7.c9
  have d10 := hq7.c10
  have d11 := hq7.c11
  have d12 := hq7.c12
  unfold stV at H2
  dsimp only at H2 c0 c1 c2 c3 c4 c5 c6 c7 c8 c9 c10 c11 c12 d0 d1 d2 d3 d4 d5 d6 d7 d8 d9 d10 d11 d12
  replace H2 : Hid _ := hid H2
  go_wp2_with fail
  refine Calls.mono H2.out ?_
  rintro e w8 ⟨rfl, hb8⟩
  have hq8 := hq7.later hb8
  have j18 : IsS (fun b => True) w8 m.1 _ := j1.keep fun b _ hl => hb8.block b hl
  have j28 : RowIs eStmt (fun b => True) w8 _ m.2 := j2.keep (by decide) fun b _ hl => hb8.block b hl
  have hB8 := Below.on hB hb8
  have H3 := HSh.out _ _ hB8 j18 j28
  clear H2 hq3 hq7 hI hR hB hb8 j1 j2 c0 c1 c2 c3 c4 c5 c6 c7 c8 c9 c10 c11 c12 d0 d1 d2 d3 d4 d5 d6 d7 d8 d9 d10 d11 d12 HSh
  have d0 := hq8.c0
  have d1 := hq8.c1
  have d2 := hq8.c2
  have d3 := hq8.c3
  have d4 := hq8.c4
  have d5 := hq8.c5
  have d6 := hq8.c6
  have d7 := hq8.c7
  have d8 := hq8.c8
  have d9 := hq8.c9
  have d10 := hq8.c10
  have d11 := hq8.c11
  have d12 := hq8.c12
  unfold stV at H3
  dsimp only at H3 d0 d1 d2 d3 d4 d5 d6 d7 d8 d9 d10 d11 d12
  replace H3 : Hid _ := hid H3
  go_wp2_with fail
  refine Calls.mono H3.out ?_
  rintro e w9 ⟨rfl, hb9⟩
  have hB9 := Below.on hB8 hb9
  clear H3 hb9 hq8 j18 j28 d0 d1 d2 d3 d4 d5 d6 d7 d8 d9 d10 d11 d12
  go_wp2
  go_ret
  exact ⟨rfl, hB9⟩

end Go.Proofs.YtnboooaockgoiaaGreatDoor
