import Derived.Test.YtnboooaockgoiaaGreatDoorPac
import Derived.Test.YtnboooaockgoiaaGreatDoorPad
import Derived.Shelf.LaysM
import Derived.Shelf.Strconv.Itoa4
import Derived.Shelf.Strings.Builder1
import Derived.Shelf.Strings.Builder2
import Derived.Shelf.Strings.Replace
import Derived.Test.YtnboooaockgoiaaGreatDoorPaa
namespace Go.Proofs.YtnboooaockgoiaaGreatDoor
open Go.RowKit
set_option linter.unusedVariables false

theorem Rf.set7 {w : World} {g : Nat} {S : Sa} {d : Nat} (h : Rf w g S d) {b : Nat} (hb : g < b) (op : Int) (p : Pay) (sl : Value) : Rf (set7 w b op p sl) g S d :=
  h.keep fun k hk => set7_heap _ _ _ _ _ (by omega)
/-- What a call that reads an expression tells. -/
def TfE (g d : Nat) (w : World) (R : Re Tr) (e : Ending) (w' : World) : Prop :=
  ∃ o p ao n c, e = .returned (exV o p (.slice ao n c)) ∧ But g w w' ∧ Rf w' g (stO R) d ∧ ∀ t r, R = .inr (t, r) → Ex (fun b => w.heap.size ≤ b) w' t (exV o p (.slice ao n c))
/-- The result's block is filled. -/
theorem TfE.fin {g d : Nat} {w w1 : World} {R : Re Tr} {o : Int} {p : Pay} {ao : Option Addr} {n c : Nat} (hg : g < w.heap.size) (hB : But g w w1) (hr : Rf w1 g (stO R) d)
    (hx : ∀ t r, R = .inr (t, r) → Ex (fun b => w.heap.size + 1 ≤ b) w1 t (exV o p (.slice ao n c))) :
    TfE g d w R (.returned (exV o p (.slice ao n c))) (set7 w1 w.heap.size o p (.slice ao n c)) :=
  ⟨o, p, ao, n, c, rfl, hB.set7 (Nat.le_refl _) _ _ _, hr.set7 hg _ _ _, fun t r e => ((hx t r e).set7 (by omega) _ _ _).mono fun k hk _ => by omega⟩

set_option maxRecDepth 100000 in
set_option maxHeartbeats 1000000 in
theorem fTwo_any (op : Int) (o1 : Int) (p1 : Pay) (s1 : Value) (o2 : Int) (p2 : Pay) (s2 : Value) (w : World) :
    Calls Tryz.prog 114 #[.int .i64 op, exV o1 p1 s1, exV o2 p2 s2] w fun e w' => ∃ b, e = .returned (exV op nilP (.slice (some ⟨b, 0, none⟩) 2 2)) ∧ w.heap.size ≤ b ∧ Below w.heap.size w w' ∧ Ce w' b 0 o1 p1 s1 ∧ Ce w' b 7 o2 p2 s2 := by
  obtain ⟨k1, i1, t1, b1, m1⟩ := p1
  obtain ⟨k2, i2, t2, b2, m2⟩ := p2
  unfold exV
  go_enter Tryz.func114, Tryz.ntmps114
  go_wp2
  refine bodyPost_ret (v := exV op nilP (.slice (some ⟨w.heap.size + 3, 0, none⟩) 2 2)) (by simp [results, Tryz.results114, go_sem, exV, nilP]) rfl ⟨w.heap.size + 3, rfl, by omega, ?_, ?_, ?_⟩
  · exact bal (bal (bal (bal (Below.refl _ _) _) _) _) _
  · unfold Ce
    simp [go_sem]
  · unfold Ce
    simp [go_sem]

/-- One deeper. -/
theorem Rf.deeper {w : World} {g : Nat} {ts : List Tk} {d : Nat} (h : Rf w g (.inr ts) d) (hd : d ≤ 64) : Rf (w.setCell ⟨g, 2, none⟩ (.int .i64 ((d : Int) + 1))) g (.inr ts) (d + 1) := by
  obtain ⟨b, o, N, c, n, all, h1, h2, h3, h4⟩ := h.ok
  refine Rf.of_ok h1 ⟨h2.1, by omega⟩ (by have := h3.set2 ((d : Int) + 1); simpa using this) (h4.keep (Below.heap_setCell _ _ _ _ (by have := h4.lt; show b ≠ g; omega)))
/-- A fault is a fault one higher. -/
theorem Rf.up {w : World} {g : Nat} {x : Int × Int} {d : Nat} (h : Rf w g (.inl x) (d + 1)) : Rf w g (.inl x) d := by
  obtain ⟨b, o, N, c, n, all, d', hx, hd1, hd2, hg1, hw1⟩ := h.bad
  exact Rf.of_bad hx (by omega) hd2 hg1 hw1
/-- One higher again. -/
theorem Rf.higher {w : World} {g : Nat} {S : Sa} {d : Nat} (h : Rf w g S (d + 1)) : ∃ D : Nat, 1 ≤ D ∧ D ≤ 65 ∧ w.cell? ⟨g, 2, none⟩ = some (.int .i64 (D : Int)) ∧ w.frozen? ⟨g, 2, none⟩ = false ∧ Rf (w.setCell ⟨g, 2, none⟩ (.int .i64 ((D : Int) - 1))) g S d := by
  rcases h.on with ⟨y, b, o, N, c, n, all, d', e, h1, h2, h3, h4, h5⟩ | ⟨ts, b, o, N, c, n, all, e, h1, h2, h3, h4⟩
  · subst e
    refine ⟨d', by omega, h3, h4.cells.2.2.1, h4.free.2.2.1, Rf.of_bad (d' := d' - 1) h1 (by omega) (by omega) (by have := h4.set2 ((d' : Int) - 1); rw [show ((d' - 1 : Nat) : Int) = (d' : Int) - 1 from by omega]; exact this) (h5.keep (Below.heap_setCell _ _ _ _ (by have := h5.lt; show b ≠ g; omega)))⟩
  · subst e
    refine ⟨d + 1, by omega, h2.2, h3.cells.2.2.1, h3.free.2.2.1, Rf.of_ok h1 ⟨h2.1, by omega⟩ (by have := h3.set2 (((d + 1 : Nat) : Int) - 1); rw [show ((d + 1 : Nat) : Int) - 1 = (d : Int) from by omega] at this ⊢; exact this) (h4.keep (Below.heap_setCell _ _ _ _ (by have := h4.lt; show b ≠ g; omega)))⟩

set_option maxRecDepth 100000 in
set_option maxHeartbeats 1000000 in
theorem fDown_lo {g : Nat} {ts : List Tk} {d : Nat} {w : World} (h : Rf w g (.inr ts) d) (hd : d < 64) :
    Calls Tryz.prog 128 #[.pointer (some ⟨g, 0, none⟩)] w fun e w' => e = .returned (.bool true) ∧ Rf w' g (.inr ts) (d + 1) ∧ But g w w' := by
  have hgl := h.lt
  obtain ⟨b, o, N, c, n, all, h1, h2, hg, hw⟩ := h.ok
  obtain ⟨c0, c1, c2, c3, c4⟩ := hg.cells
  obtain ⟨f0, f1, f2, f3, f4⟩ := hg.free
  have HR : Hid _ := hid (h.deeper (by omega))
  have g1 : decide ((64 : Int) < (d : Int) + 1) = false := by simp; omega
  clear h hg hw h1 h2
  go_enter Tryz.func128, Tryz.ntmps128
  go_wp2
  go_ret
  exact ⟨rfl, HR.out, But.set _ _ _ _⟩

set_option maxRecDepth 100000 in
set_option maxHeartbeats 1000000 in
theorem fDown_hi {g : Nat} {ts : List Tk} {w : World} (h : Rf w g (.inr ts) 64) :
    Calls Tryz.prog 128 #[.pointer (some ⟨g, 0, none⟩)] w fun e w' => e = .returned (.bool false) ∧ Rf w' g (.inl (atOf ts, 6)) 64 ∧ But g w w' := by
  have hgl := h.lt
  obtain ⟨b, o, N, c, n, all, h1, h2, hg, hw⟩ := h.ok
  obtain ⟨c0, c1, c2, c3, c4⟩ := hg.cells
  obtain ⟨f0, f1, f2, f3, f4⟩ := hg.free
  have HF : Hid _ := hid (fFail_any (h.deeper (by omega)) 6 (by decide))
  rw [show ((64 : Nat) : Int) + 1 = 65 from rfl, show failS 6 (.inr ts) = .inl (atOf ts, 6) from rfl] at HF
  rw [show ((64 : Nat) : Int) = 64 from rfl] at c2
  clear h hg hw h1 h2
  go_enter Tryz.func128, Tryz.ntmps128
  go_wp2_with fail
  refine Calls.mono HF.out ?_
  rintro e w1 ⟨rfl, hr1, hb1⟩
  obtain ⟨b', o', N', c', n', all', d', hx, hd1, hd2, hg1, hw1⟩ := hr1.bad
  have hB := (But.set g 2 w (.int .i64 65)).trans hb1
  obtain ⟨k0, k1, k2, k3, k4⟩ := hg1.cells
  have HR : Hid (Rf w1 g (.inl (atOf ts, 6)) 64) := hid hr1.up
  have hgl1 := hr1.lt
  clear HF hr1 hg1 hw1 c0 c1 c2 c3 c4 f0 f1 f2 f3 f4 hb1
  go_wp2
  go_ret
  exact ⟨rfl, HR.out, hB⟩

set_option maxRecDepth 100000 in
set_option maxHeartbeats 2000000 in
theorem fColumn_any {g : Nat} {S : Sa} {d : Nat} {w : World} (h : Rf w g S d) :
    Calls Tryz.prog 106 #[.pointer (some ⟨g, 0, none⟩)] w (TfE g d w (runP columnP S)) := by
  have hgl := h.lt
  have b0 : Be (w.alloc zE) w.heap.size 0 nilP (.slice none 0 0) := Be.new w 0 nilP (.slice none 0 0)
  have HN : Hid _ := hid (fName_any (h.alloc zE))
  clear h
  go_enter Tryz.func106, Tryz.ntmps106
  go_wp2_with fail
  refine Calls.mono HN.out ?_
  rintro e w1 ⟨s1, rfl, hb1, hr1, hu1⟩
  have hB : But g w w1 := hb1.behind
  have z1 := b0.but hb1 (by omega)
  have hsz : w.heap.size + 1 ≤ w1.heap.size := by have := hb1.size; simp at this; omega
  have x2 := Be.new w1 2 (0, 0, ⟨#[]⟩, ⟨#[]⟩, s1) (.slice none 0 0)
  have z2 := z1.later (bal (Below.refl _ w1) (.cells #[.int .i64 2, .int .i64 0, .int .i64 0, .string ⟨#[]⟩, .string ⟨#[]⟩, .string s1, .slice none 0 0] 43))
  have hr2 := hr1.alloc (.cells #[.int .i64 2, .int .i64 0, .int .i64 0, .string ⟨#[]⟩, .string ⟨#[]⟩, .string s1, .slice none 0 0] 43)
  have hB2 := hB.alloc (.cells #[.int .i64 2, .int .i64 0, .int .i64 0, .string ⟨#[]⟩, .string ⟨#[]⟩, .string s1, .slice none 0 0] 43)
  have HT := fTake_any hr2 ⟨#[46]⟩
  generalize hq : w1.heap.size = q at *
  clear HN hb1 b0 z1 hr1 hB
  cases hb : takeB ⟨#[46]⟩ (stO (runP nameP S)) with
  | false =>
    have e1 := column_false hb
    rw [hb, takeB_false hb] at HT
    replace HT : Hid _ := hid HT
    have E1 : Hid _ := hid e1
    clear hb e1 hr2
    go_wp2_with fail
    refine Calls.mono HT.out ?_
    rintro e w2 ⟨rfl, hr3, hb3⟩
    have hB3 := hB2.trans hb3
    have x3 := x2.but hb3 (by omega)
    have z3 := z2.but hb3 (by omega)
    obtain ⟨k0, k1, k2, k3, k4, k5, k6⟩ := x3.cells
    rw [Nat.zero_add] at k1 k2 k3 k4 k5 k6
    obtain ⟨m0, m1, m2, m3, m4, m5, m6⟩ := z3.cells
    obtain ⟨n0, n1, n2, n3, n4, n5, n6⟩ := z3.free
    clear HT hb3 hB2 x2 z2
    go_wp2
    refine bodyPost_ret (v := exV 2 (0, 0, ⟨#[]⟩, ⟨#[]⟩, s1) (.slice none 0 0)) (by simp [results, Tryz.results106, go_sem, exV, m0, m1, m2, m3, m4, m5, m6]) rfl (TfE.fin hgl hB3 (by rw [E1.out, stO_mapR]; exact hr3) ?_)
    intro t r e
    rw [E1.out] at e
    obtain ⟨u, e2, rfl⟩ := mapR_inr e
    obtain rfl := hu1 u r e2
    exact Ex.leaf 0 2 _
  | true =>
    obtain ⟨t, ts, hS, ht, hT⟩ := takeB_true hb
    obtain ⟨n, hn⟩ := stO_inr hS
    obtain rfl := hu1 _ _ hn
    have e1 := column_true hn (by rw [hS] at hb; exact hb)
    rw [hb, hT] at HT
    replace HT : Hid _ := hid HT
    have E1 : Hid _ := hid e1
    clear hb hT hS hn hu1 e1 hr2
    go_wp2_with fail
    refine Calls.mono HT.out ?_
    rintro e w2 ⟨rfl, hr3, hb3⟩
    have hB3 := hB2.trans hb3
    have x3 := x2.but hb3 (by omega)
    have z3 := z2.but hb3 (by omega)
    obtain ⟨k0, k1, k2, k3, k4, k5, k6⟩ := x3.cells
    rw [Nat.zero_add] at k1 k2 k3 k4 k5 k6
    have hq2 : q < w2.heap.size := x3.lt
    have HN : Hid _ := hid (fName_any hr3.drew)
    have hBd : But g w w2.drew := hB3.dr
    have hxd : Be w2.drew q 2 (0, 0, ⟨#[]⟩, ⟨#[]⟩, s1) (.slice none 0 0) := x3.keep rfl
    have hzd : Be w2.drew w.heap.size 0 nilP (.slice none 0 0) := z3.keep rfl
    clear HT hb3 hB2 hB3 hr3 x2 z2 x3 z3
    go_upto_region 3 with fail
    go_region_with (refine Calls.mono HN.out ?_; rintro e w3 ⟨s2, rfl, hb5, hr5, hu5⟩; have x5 := hxd.but hb5 (by omega); obtain ⟨j0, j1, j2, j3, j4, j5, j6⟩ := x5.cells; rw [Nat.zero_add] at j1 j2 j3 j4 j5 j6; obtain ⟨f0, f1, f2, f3, f4, f5, f6⟩ := x5.free)
    all_goals
      have hB5 := hBd.trans hb5
      have z5 := hzd.but hb5 (by omega)
      have hr6 := (hr5.other (r := q) (by omega) 4 (.string s1)).other (r := q) (by omega) 5 (.string s2)
      have x6 := (x5.set4 s1).set5 s2
      have z6 := (z5.other (by omega) (r := q) 4 (.string s1)).other (by omega) (r := q) 5 (.string s2)
      have hB6 := (hB5.new (r := q) (by omega) 4 (.string s1)).new (r := q) (by omega) 5 (.string s2)
      generalize hV : (w3.setCell ⟨q, 4, none⟩ (.string s1)).setCell ⟨q, 5, none⟩ (.string s2) = V at *
      obtain ⟨i0, i1, i2, i3, i4, i5, i6⟩ := x6.cells
      rw [Nat.zero_add] at i1 i2 i3 i4 i5 i6
      obtain ⟨m0, m1, m2, m3, m4, m5, m6⟩ := z6.cells
      obtain ⟨n0, n1, n2, n3, n4, n5, n6⟩ := z6.free
      clear HN hb5 hBd hB5 hr5 x5 z5 hxd hzd hV x6 z6
      go_wp2
      refine bodyPost_ret (v := exV 2 (0, 0, ⟨#[]⟩, s1, s2) (.slice none 0 0)) (by simp [results, Tryz.results106, go_sem, exV, m0, m1, m2, m3, m4, m5, m6]) rfl (TfE.fin hgl hB6 (by rw [E1.out, stO_mapR]; exact hr6) ?_)
      intro t r e
      rw [E1.out] at e
      obtain ⟨u, e2, rfl⟩ := mapR_inr e
      obtain rfl := hu5 u r e2
      exact Ex.leaf 0 2 _

end Go.Proofs.YtnboooaockgoiaaGreatDoor
namespace Go.Proofs
open Go.Shelf
def Tryz.laysM171_ren : Go.Shelf.Ren := ⟨fun | 171 => 96 | 243 => 111 | 246 => 115 | 283 => 118 | 284 => 119 | 285 => 120 | 286 => 121 | 129 => 131 | 317 => 130 | 318 => 132 | 319 => 133 | 320 => 134 | 337 => 142 | 338 => 143 | n => n, fun | 3 => 3 | 9 => 9 | 2 => 2 | 4 => 4 | 171 => 140 | 0 => 0 | 53 => 122 | 37 => 22 | 5 => 5 | 173 => 143 | 212 => 157 | 51 => 158 | 20 => 20 | 213 => 159 | 46 => 161 | 232 => 174 | 233 => 175 | n => n, fun | 17 => 0 | 18 => 4 | 19 => 5 | n => n⟩
theorem Tryz.laysM171 : Go.Proofs.LaysM.n171 Tryz.prog Tryz.laysM171_ren := {
  mixed := by kernel_rfl
  f129 := Tryz.func131.trans (congrArg some (by kernel_rfl))
  f171 := Tryz.func96.trans (congrArg some (by kernel_rfl))
  f243 := Tryz.func111.trans (congrArg some (by kernel_rfl))
  f246 := Tryz.func115.trans (congrArg some (by kernel_rfl))
  f283 := Tryz.func118.trans (congrArg some (by kernel_rfl))
  f284 := Tryz.func119.trans (congrArg some (by kernel_rfl))
  f285 := Tryz.func120.trans (congrArg some (by kernel_rfl))
  f286 := Tryz.func121.trans (congrArg some (by kernel_rfl))
  f317 := Tryz.func130.trans (congrArg some (by kernel_rfl))
  f318 := Tryz.func132.trans (congrArg some (by kernel_rfl))
  f319 := Tryz.func133.trans (congrArg some (by kernel_rfl))
  f320 := Tryz.func134.trans (congrArg some (by kernel_rfl))
  f337 := Tryz.func142.trans (congrArg some (by kernel_rfl))
  f338 := Tryz.func143.trans (congrArg some (by kernel_rfl))
  t0 := Tryz.underlying0
  a0 := Tryz.isAgg0
  z0 := Tryz.sizeOf0
  v0 := Tryz.zeroValue0
  t2 := Tryz.underlying2
  a2 := Tryz.isAgg2
  z2 := Tryz.sizeOf2
  v2 := Tryz.zeroValue2
  t3 := Tryz.underlying3
  a3 := Tryz.isAgg3
  z3 := Tryz.sizeOf3
  v3 := Tryz.zeroValue3
  t4 := Tryz.underlying4
  a4 := Tryz.isAgg4
  z4 := Tryz.sizeOf4
  v4 := Tryz.zeroValue4
  t5 := Tryz.underlying5
  a5 := Tryz.isAgg5
  z5 := Tryz.sizeOf5
  v5 := Tryz.zeroValue5
  t9 := Tryz.underlying9
  a9 := Tryz.isAgg9
  z9 := Tryz.sizeOf9
  v9 := Tryz.zeroValue9
  t20 := Tryz.underlying20
  a20 := Tryz.isAgg20
  z20 := Tryz.sizeOf20
  v20 := Tryz.zeroValue20
  t37 := Tryz.underlying22
  a37 := Tryz.isAgg22
  z37 := Tryz.sizeOf22
  v37 := Tryz.zeroValue22
  t46 := Tryz.underlying161
  a46 := Tryz.isAgg161
  z46 := Tryz.sizeOf161
  v46 := Tryz.zeroValue161
  t51 := Tryz.underlying158
  a51 := Tryz.isAgg158
  z51 := Tryz.sizeOf158
  v51 := Tryz.zeroValue158
  t53 := Tryz.underlying122
  a53 := Tryz.isAgg122
  z53 := Tryz.sizeOf122
  v53 := Tryz.zeroValue122
  t171 := Tryz.underlying140
  a171 := Tryz.isAgg140
  z171 := Tryz.sizeOf140
  v171 := Tryz.zeroValue140
  t173 := Tryz.underlying143
  a173 := Tryz.isAgg143
  z173 := Tryz.sizeOf143
  v173 := Tryz.zeroValue143
  t212 := Tryz.underlying157
  a212 := Tryz.isAgg157
  z212 := Tryz.sizeOf157
  v212 := Tryz.zeroValue157
  t213 := Tryz.underlying159
  a213 := Tryz.isAgg159
  z213 := Tryz.sizeOf159
  t232 := Tryz.underlying174
  a232 := Tryz.isAgg174
  z232 := Tryz.sizeOf174
  v232 := Tryz.zeroValue174
  t233 := Tryz.underlying175
  a233 := Tryz.isAgg175
  z233 := Tryz.sizeOf175
  v233 := Tryz.zeroValue175
  g17 := by kernel_rfl
  g18 := by kernel_rfl
  g19 := by kernel_rfl
  i0 := by kernel_rfl
  i2 := by kernel_rfl
  i3 := by kernel_rfl
  i4 := by kernel_rfl
  i5 := by kernel_rfl
  i9 := by kernel_rfl
  i20 := by kernel_rfl
  i37 := by kernel_rfl
  i46 := by kernel_rfl
  i51 := by kernel_rfl
  i53 := by kernel_rfl
  i171 := by kernel_rfl
  i173 := by kernel_rfl
  i212 := by kernel_rfl
  i232 := by kernel_rfl
  i233 := by kernel_rfl
  m17 := by kernel_rfl
  m18 := by kernel_rfl
  m19 := by kernel_rfl }
open Go.RowKit Go.Sort Go.Lib in
/-- strconv.Itoa: "Itoa is equivalent to FormatInt(int64(i), 10).": i's DECIMAL NUMERAL ('Lib.itoa': a '-' where i is negative, then the digits), FOR EVERY int. The world behind the call: the world before it, new blocks behind the heap (the library's 'var a [24]byte'), draws. (LAID: no walk: one application.) -/
theorem Tryz.strconv_Itoa (n : Int) (h0 : -9223372036854775808 ≤ n) (h1 : n ≤ 9223372036854775807) (w : World) (htab : Lib.TabIs Tryz.prog w "internal/strconv.uint64pow10" .u64 Lib.pow10Tab) :
    Calls Tryz.prog 96 #[.int .i64 n] w fun e w' => e = .returned (.string ⟨(Lib.itoa n).toArray⟩) ∧ ∃ k os, w' = grow (w.drewN k) os := Any.strconv_Itoa Tryz.laysM171 n h0 h1 w htab
def Tryz.laysM173_ren : Go.Shelf.Ren := ⟨fun | 173 => 109 | 246 => 115 | 283 => 118 | 284 => 119 | 285 => 120 | 286 => 121 | 129 => 131 | 317 => 130 | 318 => 132 | 319 => 133 | 320 => 134 | 337 => 142 | 338 => 143 | n => n, fun | 2 => 2 | 3 => 3 | 9 => 9 | 4 => 4 | 171 => 140 | 0 => 0 | 53 => 122 | 37 => 22 | 5 => 5 | 173 => 143 | 212 => 157 | 51 => 158 | 20 => 20 | 213 => 159 | 46 => 161 | 232 => 174 | 233 => 175 | n => n, fun | 17 => 0 | 18 => 4 | 19 => 5 | n => n⟩
theorem Tryz.laysM173 : Go.Proofs.LaysM.n173 Tryz.prog Tryz.laysM173_ren := {
  mixed := by kernel_rfl
  f129 := Tryz.func131.trans (congrArg some (by kernel_rfl))
  f173 := Tryz.func109.trans (congrArg some (by kernel_rfl))
  f246 := Tryz.func115.trans (congrArg some (by kernel_rfl))
  f283 := Tryz.func118.trans (congrArg some (by kernel_rfl))
  f284 := Tryz.func119.trans (congrArg some (by kernel_rfl))
  f285 := Tryz.func120.trans (congrArg some (by kernel_rfl))
  f286 := Tryz.func121.trans (congrArg some (by kernel_rfl))
  f317 := Tryz.func130.trans (congrArg some (by kernel_rfl))
  f318 := Tryz.func132.trans (congrArg some (by kernel_rfl))
  f319 := Tryz.func133.trans (congrArg some (by kernel_rfl))
  f320 := Tryz.func134.trans (congrArg some (by kernel_rfl))
  f337 := Tryz.func142.trans (congrArg some (by kernel_rfl))
  f338 := Tryz.func143.trans (congrArg some (by kernel_rfl))
  t0 := Tryz.underlying0
  a0 := Tryz.isAgg0
  z0 := Tryz.sizeOf0
  v0 := Tryz.zeroValue0
  t2 := Tryz.underlying2
  a2 := Tryz.isAgg2
  z2 := Tryz.sizeOf2
  v2 := Tryz.zeroValue2
  t3 := Tryz.underlying3
  a3 := Tryz.isAgg3
  z3 := Tryz.sizeOf3
  v3 := Tryz.zeroValue3
  t4 := Tryz.underlying4
  a4 := Tryz.isAgg4
  z4 := Tryz.sizeOf4
  v4 := Tryz.zeroValue4
  t5 := Tryz.underlying5
  a5 := Tryz.isAgg5
  z5 := Tryz.sizeOf5
  v5 := Tryz.zeroValue5
  t9 := Tryz.underlying9
  a9 := Tryz.isAgg9
  z9 := Tryz.sizeOf9
  v9 := Tryz.zeroValue9
  t20 := Tryz.underlying20
  a20 := Tryz.isAgg20
  z20 := Tryz.sizeOf20
  v20 := Tryz.zeroValue20
  t37 := Tryz.underlying22
  a37 := Tryz.isAgg22
  z37 := Tryz.sizeOf22
  v37 := Tryz.zeroValue22
  t46 := Tryz.underlying161
  a46 := Tryz.isAgg161
  z46 := Tryz.sizeOf161
  v46 := Tryz.zeroValue161
  t51 := Tryz.underlying158
  a51 := Tryz.isAgg158
  z51 := Tryz.sizeOf158
  v51 := Tryz.zeroValue158
  t53 := Tryz.underlying122
  a53 := Tryz.isAgg122
  z53 := Tryz.sizeOf122
  v53 := Tryz.zeroValue122
  t171 := Tryz.underlying140
  a171 := Tryz.isAgg140
  z171 := Tryz.sizeOf140
  v171 := Tryz.zeroValue140
  t173 := Tryz.underlying143
  a173 := Tryz.isAgg143
  z173 := Tryz.sizeOf143
  v173 := Tryz.zeroValue143
  t212 := Tryz.underlying157
  a212 := Tryz.isAgg157
  z212 := Tryz.sizeOf157
  v212 := Tryz.zeroValue157
  t213 := Tryz.underlying159
  a213 := Tryz.isAgg159
  z213 := Tryz.sizeOf159
  t232 := Tryz.underlying174
  a232 := Tryz.isAgg174
  z232 := Tryz.sizeOf174
  v232 := Tryz.zeroValue174
  t233 := Tryz.underlying175
  a233 := Tryz.isAgg175
  z233 := Tryz.sizeOf175
  v233 := Tryz.zeroValue175
  g17 := by kernel_rfl
  g18 := by kernel_rfl
  g19 := by kernel_rfl
  i0 := by kernel_rfl
  i2 := by kernel_rfl
  i3 := by kernel_rfl
  i4 := by kernel_rfl
  i5 := by kernel_rfl
  i9 := by kernel_rfl
  i20 := by kernel_rfl
  i37 := by kernel_rfl
  i46 := by kernel_rfl
  i51 := by kernel_rfl
  i53 := by kernel_rfl
  i171 := by kernel_rfl
  i173 := by kernel_rfl
  i212 := by kernel_rfl
  i232 := by kernel_rfl
  i233 := by kernel_rfl
  m17 := by kernel_rfl
  m18 := by kernel_rfl
  m19 := by kernel_rfl }
open Go.RowKit Go.Sort Go.Lib in
/-- strconv.FormatInt: "FormatInt returns the string representation of i in the given base": AT BASE 10: i's decimal numeral, for every int64. (LAID: no walk: one application.) -/
theorem Tryz.strconv_FormatInt_10 (n : Int) (h0 : -9223372036854775808 ≤ n) (h1 : n ≤ 9223372036854775807) (w : World) (htab : Lib.TabIs Tryz.prog w "internal/strconv.uint64pow10" .u64 Lib.pow10Tab) :
    Calls Tryz.prog 109 #[.int .i64 n, .int .i64 10] w fun e w' => e = .returned (.string ⟨(Lib.itoa n).toArray⟩) ∧ ∃ k os, w' = grow (w.drewN k) os := Any.strconv_FormatInt_10 Tryz.laysM173 n h0 h1 w htab
def Tryz.lays155_ren : Go.Shelf.Ren := ⟨fun | 155 => 110 | 154 => 116 | 138 => 122 | 165 => 123 | 143 => 124 | 166 => 125 | 197 => 126 | 169 => 127 | 195 => 135 | 218 => 136 | 240 => 137 | 241 => 138 | 219 => 139 | 260 => 140 | 276 => 144 | 277 => 145 | 217 => 146 | 225 => 147 | 224 => 148 | 267 => 149 | 266 => 151 | 314 => 152 | n => n, fun | 9 => 9 | 3 => 3 | 4 => 4 | 72 => 148 | 0 => 0 | 76 => 152 | 105 => 154 | 21 => 21 | 5 => 5 | 70 => 146 | 20 => 20 | 37 => 22 | 75 => 151 | 127 => 165 | 164 => 167 | 46 => 161 | 119 => 170 | 139 => 173 | 138 => 172 | 146 => 176 | 51 => 158 | 80 => 71 | n => n, fun | 1 => 1 | 3 => 2 | 4 => 3 | n => n⟩
theorem Tryz.lays155 : Go.Proofs.Lays.n155 Tryz.prog Tryz.lays155_ren := {
  mixed := by kernel_rfl
  f138 := Tryz.func122.trans (congrArg some (by kernel_rfl))
  f143 := Tryz.func124.trans (congrArg some (by kernel_rfl))
  f154 := Tryz.func116.trans (congrArg some (by kernel_rfl))
  f155 := Tryz.func110.trans (congrArg some (by kernel_rfl))
  f165 := Tryz.func123.trans (congrArg some (by kernel_rfl))
  f166 := Tryz.func125.trans (congrArg some (by kernel_rfl))
  f169 := Tryz.func127.trans (congrArg some (by kernel_rfl))
  f195 := Tryz.func135.trans (congrArg some (by kernel_rfl))
  f197 := Tryz.func126.trans (congrArg some (by kernel_rfl))
  f217 := Tryz.func146.trans (congrArg some (by kernel_rfl))
  f218 := Tryz.func136.trans (congrArg some (by kernel_rfl))
  f219 := Tryz.func139.trans (congrArg some (by kernel_rfl))
  f224 := Tryz.func148.trans (congrArg some (by kernel_rfl))
  f225 := Tryz.func147.trans (congrArg some (by kernel_rfl))
  f240 := Tryz.func137.trans (congrArg some (by kernel_rfl))
  f241 := Tryz.func138.trans (congrArg some (by kernel_rfl))
  f260 := Tryz.func140.trans (congrArg some (by kernel_rfl))
  f266 := Tryz.func151.trans (congrArg some (by kernel_rfl))
  f267 := Tryz.func149.trans (congrArg some (by kernel_rfl))
  f276 := Tryz.func144.trans (congrArg some (by kernel_rfl))
  f277 := Tryz.func145.trans (congrArg some (by kernel_rfl))
  f314 := Tryz.func152.trans (congrArg some (by kernel_rfl))
  t0 := Tryz.underlying0
  a0 := Tryz.isAgg0
  z0 := Tryz.sizeOf0
  v0 := Tryz.zeroValue0
  t3 := Tryz.underlying3
  a3 := Tryz.isAgg3
  z3 := Tryz.sizeOf3
  v3 := Tryz.zeroValue3
  t4 := Tryz.underlying4
  a4 := Tryz.isAgg4
  z4 := Tryz.sizeOf4
  v4 := Tryz.zeroValue4
  t5 := Tryz.underlying5
  a5 := Tryz.isAgg5
  z5 := Tryz.sizeOf5
  v5 := Tryz.zeroValue5
  t9 := Tryz.underlying9
  a9 := Tryz.isAgg9
  z9 := Tryz.sizeOf9
  v9 := Tryz.zeroValue9
  t20 := Tryz.underlying20
  a20 := Tryz.isAgg20
  z20 := Tryz.sizeOf20
  v20 := Tryz.zeroValue20
  t21 := Tryz.underlying21
  a21 := Tryz.isAgg21
  z21 := Tryz.sizeOf21
  v21 := Tryz.zeroValue21
  t37 := Tryz.underlying22
  a37 := Tryz.isAgg22
  z37 := Tryz.sizeOf22
  v37 := Tryz.zeroValue22
  t46 := Tryz.underlying161
  a46 := Tryz.isAgg161
  z46 := Tryz.sizeOf161
  v46 := Tryz.zeroValue161
  t51 := Tryz.underlying158
  a51 := Tryz.isAgg158
  z51 := Tryz.sizeOf158
  v51 := Tryz.zeroValue158
  t70 := Tryz.underlying146
  a70 := Tryz.isAgg146
  z70 := Tryz.sizeOf146
  v70 := Tryz.zeroValue146
  t72 := Tryz.underlying148
  a72 := Tryz.isAgg148
  z72 := Tryz.sizeOf148
  v72 := Tryz.zeroValue148
  t75 := Tryz.underlying151
  a75 := Tryz.isAgg151
  z75 := Tryz.sizeOf151
  v75 := Tryz.zeroValue151
  t76 := Tryz.underlying152
  a76 := Tryz.isAgg152
  z76 := Tryz.sizeOf152
  v76 := Tryz.zeroValue152
  t105 := Tryz.underlying154
  a105 := Tryz.isAgg154
  z105 := Tryz.sizeOf154
  v105 := Tryz.zeroValue154
  t119 := Tryz.underlying170
  a119 := Tryz.isAgg170
  z119 := Tryz.sizeOf170
  t127 := Tryz.underlying165
  a127 := Tryz.isAgg165
  z127 := Tryz.sizeOf165
  v127 := Tryz.zeroValue165
  t138 := Tryz.underlying172
  a138 := Tryz.isAgg172
  z138 := Tryz.sizeOf172
  v138 := Tryz.zeroValue172
  t139 := Tryz.underlying173
  a139 := Tryz.isAgg173
  z139 := Tryz.sizeOf173
  v139 := Tryz.zeroValue173
  t146 := Tryz.underlying176
  a146 := Tryz.isAgg176
  z146 := Tryz.sizeOf176
  v146 := Tryz.zeroValue176
  t164 := Tryz.underlying167
  a164 := Tryz.isAgg167
  z164 := Tryz.sizeOf167
  v164 := Tryz.zeroValue167
  g1 := by kernel_rfl
  g3 := by kernel_rfl
  g4 := by kernel_rfl }
theorem Tryz.Builder_Extra_155 : Builder.Extra Tryz.prog Tryz.lays155_ren := {
  sizeBuilder := by kernel_rfl
  liesBuilder := by kernel_rfl
  t5 := Tryz.underlying5
  a5 := Tryz.isAgg5
  z5 := Tryz.sizeOf5
  v5 := Tryz.zeroValue5
  infoByte := by kernel_rfl
  cellsByte := by kernel_rfl
  sizeByte := by kernel_rfl
  neB5 := by decide }
open Go.RowKit Go.Lib in
/-- strings.ReplaceAll: "ReplaceAll returns a copy of the string s with all non-overlapping instances of old replaced by new.": AT AN old THAT IS NOT EMPTY: 'Lib.replaceAll s old new'. (LAID: no walk: one application.) -/
theorem Tryz.strings_ReplaceAll (s old new : ByteArray) (m : Int) (w : World) (hs : s.size < 4294967281) (hm : w.cell? ⟨1, 0, none⟩ = some (.int .i64 m)) (h1 : 1 ≤ old.size) (hlen : s.size + Lib.countB s old * new.size ≤ 140737488355328) :
    Calls Tryz.prog 110 #[.string s, .string old, .string new] w fun e w' =>
      e = .returned (.string ⟨(Lib.replaceAll s.data.toList old.data.toList new.data.toList).toArray⟩) ∧ Below w.heap.size w w' := Any.strings_ReplaceAll Tryz.lays155 Tryz.Builder_Extra_155 s old new m w hs hm h1 hlen
end Go.Proofs
