import Derived.Test.YtnboooaockgoiaaGreatDoorPbh
namespace Go.Proofs.YtnboooaockgoiaaGreatDoor
open Go.RowKit
set_option linter.unusedVariables false
set_option linter.unusedSimpArgs false

theorem str_I8 (l : List UInt8) : strOfNums (I8 l) = ⟨l.toArray⟩ := lz_str l
theorem str_of {X : ByteArray} {l : List UInt8} (h : bs X = l) : strOfNums (I8 l) = X := by
  rw [str_I8]
  exact bs_ext (by rw [bs_mk]; exact h.symm)
theorem Ev.up2 {n g : Nat} {w w' : World} (h : Ev n w) (hb : Below n w w') (hg : n ≤ g) : Ev g w' := fun w2 h2 => h w2 (hb.trans (h2.mono hg))
/-- A writer that was just made. -/
theorem Wt.new (w : World) : Wt (w.alloc (.cells #[.slice none 0 0, .bool false] 76)) w.heap.size (none, 0, 0) [] false :=
  ⟨heap_alloc_new w _, Own.nil _ _⟩
theorem below_w {g : Nat} {v : Sl} {w w' : World} {l : List Int} {sp : Bool} (h : Wt w g v l sp) (hu : WUp g v w w') : Below g w w' := hu.below (Nat.le_of_lt h.lt) fun b e => (h.blk b e).1
set_option maxRecDepth 100000 in
set_option maxHeartbeats 4000000 in
theorem showS_any {w : World} (he : Ev w.heap.size w) {Q : Nat → Prop} {m : Sf} {s : Sv} (hI : IsS Q w m.1 s) (hN : RowIs eStmt Q w (slV s.inn) m.2) (hm : WhlOK m) {D : Prop} (hs : SfOK D m) (hp : AllP (pcF m)) {X : ByteArray} (hX : bs X = ren (pcF m)) (hz : X.size ≤ 700000) :
    Calls Tryz.prog 14 #[stV s] w fun e w' => e = .returned (.string X) ∧ Below w.heap.size w w' := by
  have hfin := sfS_pc hs hp
  have hlen : (sfS m ([], false)).1.length ≤ 700000 := by
    rw [hfin]
    show (I8 (ren (pcF m))).length ≤ _
    rw [← hX, I8, List.length_map, bs_length]
    exact hz
  have HXX : Hid (strOfNums (sfS m ([], false)).1 = X) := hid (by rw [hfin]; exact str_of hX)
  have HW : Hid (∀ w', Below w.heap.size w w' → Calls Tryz.prog 31 #[stV s] w' fun e w2 => e = .returned (.bool true) ∧ Below w'.heap.size w' w2) := hid fun w' hb => whole_any (hI.keep fun k _ hk => hb.block k hk) (hN.keep (by decide) fun k _ hk => hb.block k hk) hm
  have HS : Hid (∀ w', Below w.heap.size w w' → Calls Tryz.prog 32 #[.pointer (some ⟨w'.heap.size, 0, none⟩), stV s] (w'.alloc (.cells #[.slice none 0 0, .bool false] 76)) (TeS2 w'.heap.size (none, 0, 0) (w'.alloc (.cells #[.slice none 0 0, .bool false] 76)) (sfS m ([], false)))) := hid fun w' hb => by
    have hb2 := Below.on hb (bal (Below.refl _ w') (.cells #[.slice none 0 0, .bool false] 76))
    have hsz := hb.size
    exact wSf_any (Wt.new w') (he.up2 hb2 hsz) ((hI.mono (Q' := fun k => k < w'.heap.size) fun k _ hk => Nat.lt_of_lt_of_le hk hsz).keep fun k _ hk => hb2.block k hk) ((hN.mono (by decide) (Q' := fun k => k < w'.heap.size) fun k _ hk => Nat.lt_of_lt_of_le hk hsz).keep (by decide) fun k _ hk => hb2.block k hk) hm.ok hlen
  clear hfin hm hs hp hX hI hN
  generalize sfS m ([], false) = Z at *
  obtain ⟨sk, stb, snm, ⟨coa, con, coc⟩, ⟨taa, tan, tac⟩, ⟨vaa, van, vac⟩, ⟨ita, itn, itc⟩, sjn, ⟨ona, onn, onc⟩, ⟨wha, whn, whc⟩, ⟨oda, odn, odc⟩, sds, ⟨nna, nnn, nnc⟩⟩ := s
  unfold stV at HW HS ⊢
  dsimp only at HW HS ⊢
  have bB : Bs (w.alloc (.cells #[.int .i64 sk, .string stb, .string snm, .slice coa con coc, .slice taa tan tac, .slice vaa van vac, .slice ita itn itc, .string sjn, .slice ona onn onc, .slice wha whn whc, .slice oda odn odc, .bool sds, .slice nna nnn nnc] 48)) w.heap.size (⟨sk, stb, snm, (coa, con, coc), (taa, tan, tac), (vaa, van, vac), (ita, itn, itc), sjn, (ona, onn, onc), (wha, whn, whc), (oda, odn, odc), sds, (nna, nnn, nnc)⟩ : Sv) := Bs.new w (⟨sk, stb, snm, (coa, con, coc), (taa, tan, tac), (vaa, van, vac), (ita, itn, itc), sjn, (ona, onn, onc), (wha, whn, whc), (oda, odn, odc), sds, (nna, nnn, nnc)⟩ : Sv)
  have hB := bal (Below.refl _ w) (.cells #[.int .i64 sk, .string stb, .string snm, .slice coa con coc, .slice taa tan tac, .slice vaa van vac, .slice ita itn itc, .string sjn, .slice ona onn onc, .slice wha whn whc, .slice oda odn odc, .bool sds, .slice nna nnn nnc] 48)
  go_enter Tryz.func14, Tryz.ntmps14
  go_upto_region 1 with fail
  generalize w.alloc (.cells #[.int .i64 sk, .string stb, .string snm, .slice coa con coc, .slice taa tan tac, .slice vaa van vac, .slice ita itn itc, .string sjn, .slice ona onn onc, .slice wha whn whc, .slice oda odn odc, .bool sds, .slice nna nnn nnc] 48) = W at *
  generalize hq : w.heap.size = q at bB ⊢
  replace hq : Hid _ := hid hq
  have c0 := bB.c0
  have c1 := bB.c1
  have c2 := bB.c2
  have c3 := bB.c3
  have c4 := bB.c4
  have c5 := bB.c5
  have c6 := bB.c6
  have c7 := bB.c7
  have c8 := bB.c8
  have c9 := bB.c9
  have c10 := bB.c10
  have c11 := bB.c11
  have c12 := bB.c12
  dsimp only at c0 c1 c2 c3 c4 c5 c6 c7 c8 c9 c10 c11 c12
  have H : Hid _ := hid (HW.out W hB)
  clear HW
  go_wp2_with fail
  refine Calls.mono H.out ?_
  rintro e w1 ⟨rfl, hb⟩
  replace bB := bB.later hb
  replace hB := Below.on hB hb
  clear H hb c0 c1 c2 c3 c4 c5 c6 c7 c8 c9 c10 c11 c12
  go_upto_region 4 with fail
  have H : Hid _ := hid (HS.out w1 hB)
  have b2 := bal (Below.refl _ w1) (.cells #[.slice none 0 0, .bool false] 76)
  replace bB := bB.later b2
  have hW0 := Wt.new w1
  have hlt : w.heap.size ≤ w1.heap.size := hB.size
  have HL : Hid (∀ w2 v2, Wt w2 w1.heap.size v2 Z.1 Z.2 → WUp w1.heap.size (none, 0, 0) (w1.alloc (.cells #[.slice none 0 0, .bool false] 76)) w2 → Below w.heap.size w w2) := hid fun w2 v2 h2 hu => hB.trans ((b2.mono hlt).trans ((below_w hW0 hu).mono hlt))
  clear HS hW0
  generalize w1.alloc (.cells #[.slice none 0 0, .bool false] 76) = W1 at *
  generalize w1.heap.size = g at *
  have c0 := bB.c0
  have c1 := bB.c1
  have c2 := bB.c2
  have c3 := bB.c3
  have c4 := bB.c4
  have c5 := bB.c5
  have c6 := bB.c6
  have c7 := bB.c7
  have c8 := bB.c8
  have c9 := bB.c9
  have c10 := bB.c10
  have c11 := bB.c11
  have c12 := bB.c12
  dsimp only at c0 c1 c2 c3 c4 c5 c6 c7 c8 c9 c10 c11 c12
  go_wp2_with fail
  refine Calls.mono H.out ?_
  rintro e w2 ⟨v2, rfl, hW2, hU2, hK2⟩
  have hF := HL.out w2 v2 hW2 hU2
  obtain ⟨a2, n2, l2⟩ := v2
  have d0 := hW2.c0
  obtain ⟨ao, cc, ec, hr⟩ := hW2.own.rd
  cases ec
  have hcv := conv_all hr
  rw [HXX.out] at hcv
  clear H HL hW2 hU2 hK2 hr HXX bB c0 c1 c2 c3 c4 c5 c6 c7 c8 c9 c10 c11 c12
  dsimp only at d0
  go_wp2
  go_ret
  exact ⟨rfl, by first | exact hF | (rw [← hq.out]; exact hF)⟩
set_option maxRecDepth 100000 in
set_option maxHeartbeats 4000000 in
theorem showE_any {w : World} (he : Ev w.heap.size w) {Q : Nat → Prop} {t : Tr} (ht : WfS t) (hz : (shE t).size ≤ 700000) {xo xk xi : Int} {xt xb xn : ByteArray} {xa : Option Addr} {xl xc : Nat} (hx : Ex Q w t (exV xo (xk, xi, xt, xb, xn) (.slice xa xl xc))) :
    Calls Tryz.prog 12 #[.agg #[.int .i64 xo, .int .i64 xk, .int .i64 xi, .string xt, .string xb, .string xn, .slice xa xl xc]] w fun e w' => e = .returned (.string (shE t)) ∧ Below w.heap.size w w' := by
  have HXX : Hid (strOfNums (woS (shE t) ([], false)).1 = shE t) := hid (by
    have e : (woS (shE t) ([], false)).1 = I8 (bs (shE t)) := by
      show [] ++ catN [shE t] = _
      rw [List.nil_append, catN_one]
    rw [e]
    exact str_of rfl)
  have HS : Hid (∀ w', Below w.heap.size w w' → Calls Tryz.prog 28 #[.pointer (some ⟨w'.heap.size, 0, none⟩), .agg #[.int .i64 xo, .int .i64 xk, .int .i64 xi, .string xt, .string xb, .string xn, .slice xa xl xc]] (w'.alloc (.cells #[.slice none 0 0, .bool false] 76)) (TeS2 w'.heap.size (none, 0, 0) (w'.alloc (.cells #[.slice none 0 0, .bool false] 76)) (woS (shE t) ([], false)))) := hid fun w' hb => by
    have hb2 := Below.on hb (bal (Below.refl _ w') (.cells #[.slice none 0 0, .bool false] 76))
    have hsz := hb.size
    exact wExpr_any (s := ([], false)) (o := xo) (p := (xk, xi, xt, xb, xn)) (ao := xa) (n := xl) (c := xc) ht (Wt.new w') (he.up2 hb2 hsz) (by show 0 + _ + 1 ≤ _; omega) ((hx.mono (Q' := fun k => k < w'.heap.size) fun k _ hk => Nat.lt_of_lt_of_le hk hsz).keep fun k _ hk => hb2.block k hk)
  clear hx ht hz
  generalize woS (shE t) ([], false) = Z at *
  generalize shE t = X at *
  have bB : Blk (w.alloc (.cells #[.int .i64 xo, .int .i64 xk, .int .i64 xi, .string xt, .string xb, .string xn, .slice xa xl xc] 43)) w.heap.size (.cells #[.int .i64 xo, .int .i64 xk, .int .i64 xi, .string xt, .string xb, .string xn, .slice xa xl xc] 43) := Blk.new w _
  have hB := bal (Below.refl _ w) (.cells #[.int .i64 xo, .int .i64 xk, .int .i64 xi, .string xt, .string xb, .string xn, .slice xa xl xc] 43)
  go_enter Tryz.func12, Tryz.ntmps12
  go_upto_region 1 with fail
  generalize w.alloc (.cells #[.int .i64 xo, .int .i64 xk, .int .i64 xi, .string xt, .string xb, .string xn, .slice xa xl xc] 43) = W at *
  generalize hq : w.heap.size = q at bB ⊢
  replace hq : Hid _ := hid hq
  go_upto_region 2 with fail
  have H : Hid _ := hid (HS.out W hB)
  have b2 := bal (Below.refl _ W) (.cells #[.slice none 0 0, .bool false] 76)
  replace bB := bB.later b2
  have hW0 := Wt.new W
  have hlt : w.heap.size ≤ W.heap.size := hB.size
  have HL : Hid (∀ w2 v2, Wt w2 W.heap.size v2 Z.1 Z.2 → WUp W.heap.size (none, 0, 0) (W.alloc (.cells #[.slice none 0 0, .bool false] 76)) w2 → Below w.heap.size w w2) := hid fun w2 v2 h2 hu => hB.trans ((b2.mono hlt).trans ((below_w hW0 hu).mono hlt))
  clear HS hW0
  generalize W.alloc (.cells #[.slice none 0 0, .bool false] 76) = W1 at *
  generalize W.heap.size = g at *
  have c0 := bB.cell 0
  have c1 := bB.cell 1
  have c2 := bB.cell 2
  have c3 := bB.cell 3
  have c4 := bB.cell 4
  have c5 := bB.cell 5
  have c6 := bB.cell 6
  simp at c0 c1 c2 c3 c4 c5 c6
  go_wp2_with fail
  refine Calls.mono H.out ?_
  rintro e w2 ⟨v2, rfl, hW2, hU2, hK2⟩
  have hF := HL.out w2 v2 hW2 hU2
  obtain ⟨a2, n2, l2⟩ := v2
  have d0 := hW2.c0
  obtain ⟨ao, cc, ec, hr⟩ := hW2.own.rd
  cases ec
  have hcv := conv_all hr
  rw [HXX.out] at hcv
  clear H HL hW2 hU2 hK2 hr HXX bB c0 c1 c2 c3 c4 c5 c6
  dsimp only at d0
  go_wp2
  go_ret
  exact ⟨rfl, by first | exact hF | (rw [← hq.out]; exact hF)⟩

end Go.Proofs.YtnboooaockgoiaaGreatDoor
namespace Go.Proofs.YtnboooaockgoiaaGreatDoor
open Go.RowKit
set_option linter.unusedVariables false
set_option linter.unusedSimpArgs false

theorem WdOK.small {w : Wd} (h : WdOK w) : w.2.1.size ≤ 30 := by
  have key : ∀ (l : List UInt8) (n : Nat), l.length ≤ n → (⟨l.toArray⟩ : ByteArray).size ≤ n := fun l n hl => by
    show l.toArray.size ≤ n
    simpa using hl
  rcases h with ⟨c, n, _, _, hn, rfl⟩ | ⟨z, _, rfl⟩ | ⟨q, _, hq, rfl⟩ | ⟨c, _, rfl⟩ | ⟨c, n, hn, rfl⟩
  · exact key (c :: n) 30 (by simp; omega)
  · exact key [] 30 (by simp)
  · exact key q 30 hq
  · exact key [c] 30 (by simp)
  · refine key (c :: n) 30 ?_
    rcases hn with ⟨_, rfl⟩ | ⟨_, rfl | rfl⟩ | ⟨_, rfl⟩ <;> simp
theorem wfS_of {d : Nat} {t : Tr} (h : Cn d t) : (∀ w ∈ wdE t, WdOK w) → WfS t := by
  have z0 : (⟨#[]⟩ : ByteArray).size ≤ 1000 := by decide
  have f0 : Fits 0 := by unfold Fits; decide
  refine Cn.ind (M := fun d t => (∀ w ∈ wdE t, WdOK w) → WfS t) ?_ ?_ ?_ ?_ ?_ ?_ t d h
  · intro d n hw
    obtain ⟨h0, hf⟩ := ok_num (hw (3, ⟨#[]⟩, n) (by simp [tInt, wdE]))
    exact ⟨⟨hf, z0, z0, z0⟩, .inl ⟨rfl, .inl ⟨rfl, h0⟩⟩⟩
  · intro d s hw
    have hs := (hw (4, s, 0) (by simp [tText, wdE])).small
    exact ⟨⟨f0, Nat.le_trans hs (by decide), z0, z0⟩, .inl ⟨rfl, .inr rfl⟩⟩
  · intro d a n hw
    have e : wdE (tCol a n) = if a = ⟨#[]⟩ then [(1, n, 0)] else [(1, a, 0), (5, ⟨#[46]⟩, 0), (1, n, 0)] := rfl
    rw [e] at hw
    have hn : n.size ≤ 1000 := by
      refine Nat.le_trans (hw (1, n, 0) ?_).small (by decide)
      split <;> simp
    have ha : a.size ≤ 1000 := by
      by_cases h0 : a = ⟨#[]⟩
      · rw [h0]; exact z0
      · rw [if_neg h0] at hw
        exact Nat.le_trans (hw (1, a, 0) (by simp)).small (by decide)
    exact ⟨⟨f0, z0, ha, hn⟩, .inr (.inl rfl)⟩
  · intro d l hc ih hw
    have hl := ih fun w hm => hw w (by rw [wdE_one3]; simp [hm])
    exact ⟨⟨f0, z0, z0, z0⟩, .inr (.inr (.inl ⟨.inl rfl, hl, rfl⟩))⟩
  · intro d l hc ih hw
    have hl := ih fun w hm => hw w (by rw [wdE_one4]; simp [hm])
    exact ⟨⟨f0, z0, z0, z0⟩, .inr (.inr (.inl ⟨.inr rfl, hl, rfl⟩))⟩
  · intro d l r j hj hc hc' ih ih' hw
    have e : wdE (tTwo (j + 5) l r) = (5, ⟨#[40]⟩, 0) :: (wdE l ++ opW j :: (wdE r ++ [(5, ⟨#[41]⟩, 0)])) := by
      rw [tTwo, wdE, if_neg (by omega), if_neg (by omega), if_neg (by omega), if_neg (by omega), Nat.add_sub_cancel]
    rw [e] at hw
    have hl := ih fun w hm => hw w (by simp [hm])
    have hr := ih' fun w hm => hw w (by simp [hm])
    exact ⟨⟨f0, z0, z0, z0⟩, .inr (.inr (.inr ⟨by omega, by omega, hl, hr⟩))⟩
theorem ItOK.cases {x : It} (h : ItOK x) : x.1 = 0 ∨ x.1 = 1 ∨ x.1 = 2 ∨ x.1 = 3 ∨ x.1 = 4 := by
  rcases h with h | rfl | h | h | h
  · exact .inl h
  · exact .inr (.inl rfl)
  · exact .inr (.inr (.inl h))
  · exact .inr (.inr (.inr (.inl h)))
  · exact .inr (.inr (.inr (.inr h)))
theorem wf_one {D : Prop} {l : List Tr} (h : One D l) (hp : AllP (pcWh l)) : (∀ t ∈ l, WfS t) ∧ l.length ≤ 1 := by
  rcases h with rfl | ⟨t, rfl, d, ht, _⟩
  · exact ⟨fun t ht => absurd ht (by simp), by simp⟩
  · refine ⟨fun u hu => ?_, by simp⟩
    obtain rfl : u = t := by simpa using hu
    exact wfS_of ht hp.tl.e
theorem whlS_of {D : Prop} {m : Sm} (h : SmOK D m) {k0 : Nat} (hp : AllP (pcS k0 m)) : WhlS m := by
  have no : ∀ {P : Tr → Prop}, ∀ t ∈ ([] : List Tr), P t := fun t ht => absurd ht (by simp)
  have noI : ∀ x ∈ ([] : List It), x.1 = 0 ∨ x.1 = 1 ∨ x.1 = 2 ∨ x.1 = 3 ∨ x.1 = 4 := fun t ht => absurd ht (by simp)
  rcases h with ⟨tb, vs, h0, h, rfl⟩ | ⟨its, tb, j, on, wh, od, d, hi, hj, hw, ho, rfl⟩ | ⟨tb, n, t, wh, ⟨d, ht, hd⟩, h, rfl⟩ | ⟨tb, wh, h, rfl⟩
  · have e : pcS k0 (up_va (up_tb (sm 5) tb) vs) = (k0, kw ⟨#[105, 110, 115, 101, 114, 116]⟩) :: (1, kw ⟨#[105, 110, 116, 111]⟩) :: (1, nm tb) :: (1, kw ⟨#[118, 97, 108, 117, 101, 115]⟩) :: (0, sg ⟨#[40]⟩) :: (jp pcE 0 vs ++ [(0, sg ⟨#[41]⟩)]) := rfl
    rw [e] at hp
    have hE := all_inE hp.tl.tl.tl.tl.tl.lf
    exact ⟨⟨.inl rfl, noI, .inl rfl, fun t ht => wfS_of (h t ht).choose_spec.1 (hE t ht), no, no, no⟩, fun _ => h0, fun e => absurd (show (5 : Int) = 7 from e) (by decide), Nat.zero_le _, .inl ⟨rfl, rfl⟩, .inl ⟨rfl, rfl⟩⟩
  · have e : pcS k0 (up_oo (up_wh (up_jo (up_tb (up_it (sm 6) its) tb) (j, on)) wh) (od, d)) = (k0, kw ⟨#[115, 101, 108, 101, 99, 116]⟩) :: (pcStar its ++ (1, kw ⟨#[102, 114, 111, 109]⟩) :: (1, nm tb) :: (pcJoin j on ++ (pcWh wh ++ pcOrd d od))) := rfl
    rw [e] at hp
    have h1 := hp.tl.rt.tl.tl
    obtain ⟨w1, w2⟩ := wf_one hw h1.rt.lf
    have hjj : (j = ⟨#[]⟩ ∧ on = []) ∨ (j ≠ ⟨#[]⟩ ∧ ∃ a b, on = [a, b] ∧ IsCol a ∧ IsCol b) := by
      rcases hj with ⟨rfl, rfl⟩ | ⟨a, b, rfl, ha, hb⟩
      · exact .inl ⟨rfl, rfl⟩
      · have hq := h1.lf
        rw [pcJoin] at hq
        exact .inr ⟨nm_ne hq.tl.fst, a, b, rfl, ha, hb⟩
    have hon : ∀ t ∈ on, WfS t := by
      rcases hj with ⟨rfl, rfl⟩ | ⟨a, b, rfl, ⟨a1, a2, rfl⟩, ⟨b1, b2, rfl⟩⟩
      · exact no
      · have hq := h1.lf
        rw [pcJoin] at hq
        intro t ht
        rcases List.mem_cons.1 ht with rfl | ht
        · exact wfS_of (Cn.col 0 a1 a2) hq.tl.tl.tl.lf.e
        · obtain rfl : t = tCol b1 b2 := by simpa using ht
          exact wfS_of (Cn.col 0 b1 b2) hq.tl.tl.tl.rt.tl.e
    have hod : ∀ t ∈ od, WfS t := by
      rcases ho with ⟨_, rfl⟩ | ⟨a, rfl, ⟨a1, a2, rfl⟩⟩
      · exact no
      · have hq := h1.rt.rt
        rw [pcOrd] at hq
        intro t ht
        obtain rfl : t = tCol a1 a2 := by simpa using ht
        exact wfS_of (Cn.col 0 a1 a2) hq.tl.tl.lf.e
    refine ⟨⟨.inr (.inl rfl), fun x hx => (hi x hx).cases, ?_, no, hon, w1, hod⟩, fun e => absurd (show (6 : Int) = 5 from e) (by decide), fun e => absurd (show (6 : Int) = 7 from e) (by decide), w2, hjj, ho⟩
    rcases hjj with ⟨e, _⟩ | ⟨_, a, b, e, _⟩
    · exact .inl e
    · exact .inr ⟨a, b, e⟩
  · have e : pcS k0 (up_wh (up_va (up_nm (up_tb (sm 7) tb) n) [t]) wh) = (k0, kw ⟨#[117, 112, 100, 97, 116, 101]⟩) :: (1, nm tb) :: (1, kw ⟨#[115, 101, 116]⟩) :: (1, nm n) :: (1, sg ⟨#[61]⟩) :: (pcE 1 t ++ pcWh wh) := rfl
    rw [e] at hp
    obtain ⟨w1, w2⟩ := wf_one h hp.tl.tl.tl.tl.tl.rt
    refine ⟨⟨.inr (.inr (.inl rfl)), noI, .inl rfl, fun u hu => ?_, no, w1, no⟩, fun e => absurd (show (7 : Int) = 5 from e) (by decide), fun _ => ⟨t, rfl⟩, w2, .inl ⟨rfl, rfl⟩, .inl ⟨rfl, rfl⟩⟩
    obtain rfl : u = t := by
      have hu' : u ∈ [t] := hu
      simpa using hu'
    exact wfS_of ht hp.tl.tl.tl.tl.tl.lf.e
  · have e : pcS k0 (up_wh (up_tb (sm 8) tb) wh) = (k0, kw ⟨#[100, 101, 108, 101, 116, 101]⟩) :: (1, kw ⟨#[102, 114, 111, 109]⟩) :: (1, nm tb) :: pcWh wh := rfl
    rw [e] at hp
    obtain ⟨w1, w2⟩ := wf_one h hp.tl.tl.tl
    exact ⟨⟨.inr (.inr (.inr rfl)), noI, .inl rfl, no, no, w1, no⟩, fun e => absurd (show (8 : Int) = 5 from e) (by decide), fun e => absurd (show (8 : Int) = 7 from e) (by decide), w2, .inl ⟨rfl, rfl⟩, .inl ⟨rfl, rfl⟩⟩
theorem smOK_kind {D : Prop} {m : Sm} (h : SmOK D m) : (m.kind = 5 ∨ m.kind = 6 ∨ m.kind = 7 ∨ m.kind = 8) ∧ (∀ c ∈ m.cols, CoOK c) ∧ ∀ z ∈ m.tags, TaOK z := by
  rcases h with ⟨tb, vs, h0, h, rfl⟩ | ⟨its, tb, j, on, wh, od, d, hi, hj, hw, ho, rfl⟩ | ⟨tb, n, t, wh, ⟨d, ht, hd⟩, h, rfl⟩ | ⟨tb, wh, h, rfl⟩
  · exact ⟨.inl rfl, fun c hc => absurd hc (List.not_mem_nil), fun c hc => absurd hc (List.not_mem_nil)⟩
  · exact ⟨.inr (.inl rfl), fun c hc => absurd hc (List.not_mem_nil), fun c hc => absurd hc (List.not_mem_nil)⟩
  · exact ⟨.inr (.inr (.inl rfl)), fun c hc => absurd hc (List.not_mem_nil), fun c hc => absurd hc (List.not_mem_nil)⟩
  · exact ⟨.inr (.inr (.inr rfl)), fun c hc => absurd hc (List.not_mem_nil), fun c hc => absurd hc (List.not_mem_nil)⟩
theorem pcF_plain {D : Prop} {x : Sm} (hx : SmOK D x) : pcF (x, []) = pcS 0 x := by rcases hx with ⟨_, _, _, _, rfl⟩ | ⟨_, _, _, _, _, _, _, _, _, _, _, rfl⟩ | ⟨_, _, _, _, _, _, rfl⟩ | ⟨_, _, _, rfl⟩ <;> rfl
/-- Every statement that Parse makes, of good words, is whole. -/
theorem whl_of {D : Prop} {m : Sf} (h : SfOK D m) (hp : AllP (pcF m)) : WhlOK m := by
  have noC : ∀ c ∈ ([] : List Co), CoOK c := fun c hc => absurd hc (List.not_mem_nil)
  have noT : ∀ z ∈ ([] : List Int), TaOK z := fun c hc => absurd hc (List.not_mem_nil)
  have noS : ∀ {P : Sm → Prop}, ∀ x ∈ ([] : List Sm), P x := fun c hc => absurd hc (List.not_mem_nil)
  rcases h with ⟨x, hx, rfl⟩ | ⟨n, cs, h0, hc, rfl⟩ | ⟨tb, n, rfl⟩ | ⟨n, tg, x, ht, hx, h6, rfl⟩ | ⟨n, tg, x, ht, hx, h6, rfl⟩ | ⟨k, hk, rfl⟩ | ⟨tg, h0, ht, rfl⟩ | ⟨n, rfl⟩
  · rw [pcF_plain hx] at hp
    have hw := whlS_of hx hp
    obtain ⟨k, c, t⟩ := smOK_kind hx
    have k' : x.kind = 5 ∨ x.kind = 6 ∨ x.kind = 7 ∨ x.kind = 8 := k
    exact ⟨⟨fun _ => hw.ok, ⟨show 1 ≤ x.kind by omega, show x.kind ≤ 13 by omega⟩, fun _ _ => rfl, c, t, noS⟩, fun _ => hw, fun e => absurd (show x.kind = 1 from e) (by omega), fun e => absurd (show x.kind = 12 from e) (by omega), fun e => absurd (show x.kind = 3 ∨ x.kind = 4 from e) (by omega), fun e => absurd (show x.kind = 3 from e) (by omega), fun e => absurd (show x.kind = 4 from e) (by omega)⟩
  · exact ⟨⟨fun e => absurd (show (1 : Int) = 5 ∨ (1 : Int) = 6 ∨ (1 : Int) = 7 ∨ (1 : Int) = 8 from e) (by decide), ⟨show (1 : Int) ≤ 1 by decide, show (1 : Int) ≤ 13 by decide⟩, fun _ _ => rfl, hc, noT, noS⟩, fun e => absurd (show (1 : Int) = 5 ∨ (1 : Int) = 6 ∨ (1 : Int) = 7 ∨ (1 : Int) = 8 from e) (by decide), fun _ => h0, fun e => absurd (show (1 : Int) = 12 from e) (by decide), fun e => absurd (show (1 : Int) = 3 ∨ (1 : Int) = 4 from e) (by decide), fun e => absurd (show (1 : Int) = 3 from e) (by decide), fun e => absurd (show (1 : Int) = 4 from e) (by decide)⟩
  · exact ⟨⟨fun e => absurd (show (2 : Int) = 5 ∨ (2 : Int) = 6 ∨ (2 : Int) = 7 ∨ (2 : Int) = 8 from e) (by decide), ⟨show (1 : Int) ≤ 2 by decide, show (2 : Int) ≤ 13 by decide⟩, fun _ _ => rfl, noC, noT, noS⟩, fun e => absurd (show (2 : Int) = 5 ∨ (2 : Int) = 6 ∨ (2 : Int) = 7 ∨ (2 : Int) = 8 from e) (by decide), fun e => absurd (show (2 : Int) = 1 from e) (by decide), fun e => absurd (show (2 : Int) = 12 from e) (by decide), fun e => absurd (show (2 : Int) = 3 ∨ (2 : Int) = 4 from e) (by decide), fun e => absurd (show (2 : Int) = 3 from e) (by decide), fun e => absurd (show (2 : Int) = 4 from e) (by decide)⟩
  · have hp' : AllP (pcDoor (up_ta (up_nm (sm 3) n) tg) [x]) := hp.tl.tl
    rw [pcDoor] at hp'
    have hw := whlS_of hx hp'.tl.tl.rt.tl
    have one : ∀ {P : Sm → Prop}, P x → ∀ y ∈ [x], P y := fun h y hy => by
      obtain rfl : y = x := by simpa using hy
      exact h
    exact ⟨⟨fun e => absurd (show (3 : Int) = 5 ∨ (3 : Int) = 6 ∨ (3 : Int) = 7 ∨ (3 : Int) = 8 from e) (by decide), ⟨show (1 : Int) ≤ 3 by decide, show (3 : Int) ≤ 13 by decide⟩, fun e _ => absurd rfl e, noC, ht, one hw.ok⟩, fun e => absurd (show (3 : Int) = 5 ∨ (3 : Int) = 6 ∨ (3 : Int) = 7 ∨ (3 : Int) = 8 from e) (by decide), fun e => absurd (show (3 : Int) = 1 from e) (by decide), fun e => absurd (show (3 : Int) = 12 from e) (by decide), fun _ => ⟨rfl, one hw⟩, fun _ => one h6, fun e => absurd (show (3 : Int) = 4 from e) (by decide)⟩
  · have hp' : AllP (pcDoor (up_ta (up_nm (sm 4) n) tg) [x]) := hp.tl.tl
    rw [pcDoor] at hp'
    have hw := whlS_of hx hp'.tl.tl.rt.tl
    have one : ∀ {P : Sm → Prop}, P x → ∀ y ∈ [x], P y := fun h y hy => by
      obtain rfl : y = x := by simpa using hy
      exact h
    have hk := (smOK_kind hx).1
    exact ⟨⟨fun e => absurd (show (4 : Int) = 5 ∨ (4 : Int) = 6 ∨ (4 : Int) = 7 ∨ (4 : Int) = 8 from e) (by decide), ⟨show (1 : Int) ≤ 4 by decide, show (4 : Int) ≤ 13 by decide⟩, fun _ e => absurd rfl e, noC, ht, one hw.ok⟩, fun e => absurd (show (4 : Int) = 5 ∨ (4 : Int) = 6 ∨ (4 : Int) = 7 ∨ (4 : Int) = 8 from e) (by decide), fun e => absurd (show (4 : Int) = 1 from e) (by decide), fun e => absurd (show (4 : Int) = 12 from e) (by decide), fun _ => ⟨rfl, one hw⟩, fun e => absurd (show (4 : Int) = 3 from e) (by decide), fun _ => one (by omega)⟩
  · rcases hk with rfl | rfl | rfl
    · exact ⟨⟨fun e => absurd (show (9 : Int) = 5 ∨ (9 : Int) = 6 ∨ (9 : Int) = 7 ∨ (9 : Int) = 8 from e) (by decide), ⟨show (1 : Int) ≤ 9 by decide, show (9 : Int) ≤ 13 by decide⟩, fun _ _ => rfl, noC, noT, noS⟩, fun e => absurd (show (9 : Int) = 5 ∨ (9 : Int) = 6 ∨ (9 : Int) = 7 ∨ (9 : Int) = 8 from e) (by decide), fun e => absurd (show (9 : Int) = 1 from e) (by decide), fun e => absurd (show (9 : Int) = 12 from e) (by decide), fun e => absurd (show (9 : Int) = 3 ∨ (9 : Int) = 4 from e) (by decide), fun e => absurd (show (9 : Int) = 3 from e) (by decide), fun e => absurd (show (9 : Int) = 4 from e) (by decide)⟩
    · exact ⟨⟨fun e => absurd (show (10 : Int) = 5 ∨ (10 : Int) = 6 ∨ (10 : Int) = 7 ∨ (10 : Int) = 8 from e) (by decide), ⟨show (1 : Int) ≤ 10 by decide, show (10 : Int) ≤ 13 by decide⟩, fun _ _ => rfl, noC, noT, noS⟩, fun e => absurd (show (10 : Int) = 5 ∨ (10 : Int) = 6 ∨ (10 : Int) = 7 ∨ (10 : Int) = 8 from e) (by decide), fun e => absurd (show (10 : Int) = 1 from e) (by decide), fun e => absurd (show (10 : Int) = 12 from e) (by decide), fun e => absurd (show (10 : Int) = 3 ∨ (10 : Int) = 4 from e) (by decide), fun e => absurd (show (10 : Int) = 3 from e) (by decide), fun e => absurd (show (10 : Int) = 4 from e) (by decide)⟩
    · exact ⟨⟨fun e => absurd (show (11 : Int) = 5 ∨ (11 : Int) = 6 ∨ (11 : Int) = 7 ∨ (11 : Int) = 8 from e) (by decide), ⟨show (1 : Int) ≤ 11 by decide, show (11 : Int) ≤ 13 by decide⟩, fun _ _ => rfl, noC, noT, noS⟩, fun e => absurd (show (11 : Int) = 5 ∨ (11 : Int) = 6 ∨ (11 : Int) = 7 ∨ (11 : Int) = 8 from e) (by decide), fun e => absurd (show (11 : Int) = 1 from e) (by decide), fun e => absurd (show (11 : Int) = 12 from e) (by decide), fun e => absurd (show (11 : Int) = 3 ∨ (11 : Int) = 4 from e) (by decide), fun e => absurd (show (11 : Int) = 3 from e) (by decide), fun e => absurd (show (11 : Int) = 4 from e) (by decide)⟩
  · exact ⟨⟨fun e => absurd (show (12 : Int) = 5 ∨ (12 : Int) = 6 ∨ (12 : Int) = 7 ∨ (12 : Int) = 8 from e) (by decide), ⟨show (1 : Int) ≤ 12 by decide, show (12 : Int) ≤ 13 by decide⟩, fun _ _ => rfl, noC, ht, noS⟩, fun e => absurd (show (12 : Int) = 5 ∨ (12 : Int) = 6 ∨ (12 : Int) = 7 ∨ (12 : Int) = 8 from e) (by decide), fun e => absurd (show (12 : Int) = 1 from e) (by decide), fun _ => h0, fun e => absurd (show (12 : Int) = 3 ∨ (12 : Int) = 4 from e) (by decide), fun e => absurd (show (12 : Int) = 3 from e) (by decide), fun e => absurd (show (12 : Int) = 4 from e) (by decide)⟩
  · exact ⟨⟨fun e => absurd (show (13 : Int) = 5 ∨ (13 : Int) = 6 ∨ (13 : Int) = 7 ∨ (13 : Int) = 8 from e) (by decide), ⟨show (1 : Int) ≤ 13 by decide, show (13 : Int) ≤ 13 by decide⟩, fun _ _ => rfl, noC, noT, noS⟩, fun e => absurd (show (13 : Int) = 5 ∨ (13 : Int) = 6 ∨ (13 : Int) = 7 ∨ (13 : Int) = 8 from e) (by decide), fun e => absurd (show (13 : Int) = 1 from e) (by decide), fun e => absurd (show (13 : Int) = 12 from e) (by decide), fun e => absurd (show (13 : Int) = 3 ∨ (13 : Int) = 4 from e) (by decide), fun e => absurd (show (13 : Int) = 3 from e) (by decide), fun e => absurd (show (13 : Int) = 4 from e) (by decide)⟩

end Go.Proofs.YtnboooaockgoiaaGreatDoor
namespace Go.Proofs.YtnboooaockgoiaaGreatDoor
open Go.RowKit
set_option linter.unusedVariables false
set_option linter.unusedSimpArgs false

abbrev aCol : Tr := tCol ⟨#[]⟩ ⟨#[97]⟩
theorem begP : AllP (pcF (sm 9, [])) := AllP.cons (okK rfl) AllP.nil
theorem begS : SfOK False (sm 9, []) := .inr (.inr (.inr (.inr (.inr (.inl ⟨9, .inl rfl, rfl⟩)))))
theorem aWf : WfS (tTwo 5 aCol aCol) := wfS_of (d := 1) (Cn.two (j := 0) (by decide) (Cn.col 0 _ _) (Cn.col 0 _ _)) (by
  intro w hw
  have e : wdE (tTwo 5 aCol aCol) = [(5, ⟨#[40]⟩, 0), (1, ⟨#[97]⟩, 0), (5, ⟨#[43]⟩, 0), (1, ⟨#[97]⟩, 0), (5, ⟨#[41]⟩, 0)] := rfl
  rw [e] at hw
  have ha : WdOK (1, ⟨#[97]⟩, 0) := ok_nm rfl rfl
  rcases List.mem_cons.1 hw with rfl | hw
  · exact okS 40 rfl
  rcases List.mem_cons.1 hw with rfl | hw
  · exact ha
  rcases List.mem_cons.1 hw with rfl | hw
  · exact okS 43 rfl
  rcases List.mem_cons.1 hw with rfl | hw
  · exact ha
  rcases List.mem_cons.1 hw with rfl | hw
  · exact okS 41 rfl
  · cases hw)
theorem aShow : shE (tTwo 5 aCol aCol) = ⟨#[40, 97, 32, 43, 32, 97, 41]⟩ := by decide +kernel
abbrev aO2 : Obj := .cells #[.int .i64 2, .int .i64 0, .int .i64 0, .string ⟨#[]⟩, .string ⟨#[]⟩, .string ⟨#[97]⟩, .slice none 0 0, .int .i64 2, .int .i64 0, .int .i64 0, .string ⟨#[]⟩, .string ⟨#[]⟩, .string ⟨#[97]⟩, .slice none 0 0] 43
theorem aEx (W : World) : Ex (fun _ => True) (W.alloc aO2) (tTwo 5 aCol aCol) (exV 5 nilP (.slice (some ⟨W.heap.size, 0, none⟩) 2 2)) := by
  have b : Blk (W.alloc aO2) W.heap.size aO2 := Blk.new W _
  exact Ex.two (op := 5) (p1 := (0, 0, ⟨#[]⟩, ⟨#[]⟩, ⟨#[97]⟩)) (p2 := (0, 0, ⟨#[]⟩, ⟨#[]⟩, ⟨#[97]⟩)) (op1 := 2) (op2 := 2) trivial ⟨b.cell 0, b.cell 1, b.cell 2, b.cell 3, b.cell 4, b.cell 5, b.cell 6⟩ ⟨b.cell 7, b.cell 8, b.cell 9, b.cell 10, b.cell 11, b.cell 12, b.cell 13⟩ (Ex.leaf 0 2 _) (Ex.leaf 0 2 _)

set_option maxRecDepth 100000 in
set_option maxHeartbeats 4000000 in
theorem begun8_any {w : World} (he : Ev w.heap.size w) : Calls Tryz.prog 6 #[] w fun e w' => e = .returned (.bool true) ∧ Below w.heap.size w w' := by
  have HS : Hid (∀ w', Below w.heap.size w w' → Calls Tryz.prog 14 #[stV (zS 9)] w' fun e w2 => e = .returned (.string ⟨#[98, 101, 103, 105, 110]⟩) ∧ Below w'.heap.size w' w2) := hid fun w' hb => showS_any (m := (sm 9, [])) (Q := fun _ => True) (he.up2 hb hb.size) (IsS.zero _ _ 9) (RowIs.nil _ _ _) (whl_of begS begP) begS begP rfl (by decide)
  have HE : Hid (∀ W, Below w.heap.size w W → Calls Tryz.prog 12 #[.agg #[.int .i64 5, .int .i64 0, .int .i64 0, .string ⟨#[]⟩, .string ⟨#[]⟩, .string ⟨#[]⟩, .slice (some ⟨W.heap.size, 0, none⟩) 2 2]] (W.alloc aO2) fun e w2 => e = .returned (.string ⟨#[40, 97, 32, 43, 32, 97, 41]⟩) ∧ Below (W.alloc aO2).heap.size (W.alloc aO2) w2) := hid fun W hb => by
    have hb2 := Below.on hb (bal (Below.refl _ W) aO2)
    have := showE_any (w := W.alloc aO2) (he.up2 hb2 hb2.size) aWf (by rw [aShow]; decide) (xo := 5) (xk := 0) (xi := 0) (xt := ⟨#[]⟩) (xb := ⟨#[]⟩) (xn := ⟨#[]⟩) (aEx W)
    rw [aShow] at this
    exact this
  unfold stV at HS
  dsimp only at HS
  have hB := bal (Below.refl _ w) (.cells #[.int .i64 2, .int .i64 0, .int .i64 0, .string ⟨#[]⟩, .string ⟨#[]⟩, .string ⟨#[97]⟩, .slice none 0 0] 43)
  have bB : Blk (w.alloc (.cells #[.int .i64 2, .int .i64 0, .int .i64 0, .string ⟨#[]⟩, .string ⟨#[]⟩, .string ⟨#[97]⟩, .slice none 0 0] 43)) w.heap.size (.cells #[.int .i64 2, .int .i64 0, .int .i64 0, .string ⟨#[]⟩, .string ⟨#[]⟩, .string ⟨#[97]⟩, .slice none 0 0] 43) := Blk.new w _
  go_enter Tryz.func6, Tryz.ntmps6
  go_upto_region 2 with fail
  have H1 : Hid _ := hid (HE.out _ hB)
  have hB2 := Below.on hB (bal (Below.refl _ (w.alloc (.cells #[.int .i64 2, .int .i64 0, .int .i64 0, .string ⟨#[]⟩, .string ⟨#[]⟩, .string ⟨#[97]⟩, .slice none 0 0] 43))) aO2)
  generalize w.alloc (.cells #[.int .i64 2, .int .i64 0, .int .i64 0, .string ⟨#[]⟩, .string ⟨#[]⟩, .string ⟨#[97]⟩, .slice none 0 0] 43) = W at *
  generalize hq : w.heap.size = q at bB ⊢
  replace hq : Hid _ := hid hq
  have c0 := bB.cell 0
  have c1 := bB.cell 1
  have c2 := bB.cell 2
  have c3 := bB.cell 3
  have c4 := bB.cell 4
  have c5 := bB.cell 5
  have c6 := bB.cell 6
  simp at c0 c1 c2 c3 c4 c5 c6
  clear bB HE
  go_wp2_with fail
  refine Calls.mono H1.out ?_
  rintro e w1 ⟨rfl, hb1⟩
  replace hB := Below.on hB2 hb1
  have H2 : Hid _ := hid (HS.out w1 hB)
  clear H1 HS hB2 hb1 c0 c1 c2 c3 c4 c5 c6
  go_wp2_with fail
  refine Calls.mono H2.out ?_
  rintro e w2 ⟨rfl, hb2⟩
  replace hB := Below.on hB hb2
  clear H2 hb2
  go_wp2
  go_ret
  exact ⟨rfl, by first | exact hB | (rw [← hq.out]; exact hB)⟩

end Go.Proofs.YtnboooaockgoiaaGreatDoor
