import Derived.Test.YtnlaaejdianfjaaGreatQfae
import Derived.RangeFuncNested
import Derived.RangeFuncLeaves
import Derived.WalkKit
namespace Go.Proofs.YtnlaaejdianfjaaGreat
open Go.RowKit
set_option linter.unusedVariables false
set_option linter.unusedSimpArgs false

theorem Tryz.infoTVal : (Tryz.prog.info? 44).map (fun i => (i.zero, i.size, i.bytes)) = some (some (.agg #[.int .i64 0, .int .i64 0, .string ⟨#[]⟩]), 3, 32) := by kernel_rfl
/-- A function value, bound to r, that tells a value and a fault of an expression. -/
def EvF (f : Pg × Tg → Vt × Int) (P : Pg × Tg → Prop) (w : World) (N : Nat) (r : Value) : Prop := (∀ args w', (callFunc N args).run Tryz.prog w' = .ok (.enter N args) w') ∧ ∀ (x : Pg × Tg) (Q : Nat → Prop) (cs : List Value) (w' : World), P x → Below w.heap.size w w' → eG.E Q w' x cs → Calls Tryz.prog N #[r, .agg cs.toArray] w' fun en w'' => en = .returned (.tuple #[vV (f x).1, .int .i64 (f x).2]) ∧ Below w'.heap.size w' w''
theorem EvF.later {f : Pg × Tg → Vt × Int} {P : Pg × Tg → Prop} {w w' : World} {N : Nat} {r : Value} (h : EvF f P w N r) (hb : Below w.heap.size w w') : EvF f P w' N r := ⟨h.1, fun x Q cs w2 hp hb2 hx => h.2 x Q cs w2 hp (Below.on hb hb2) hx⟩
theorem EvF.lat {f : Pg × Tg → Vt × Int} {P : Pg × Tg → Prop} {w W Wc w' : World} {N : Nat} {r : Value} (h : EvF f P w N r) (hw : Below w.heap.size w W) (h2 : Below W.heap.size W Wc) (h3 : Below W.heap.size Wc w') : EvF f P w' N r := h.later (hw.trans ((h2.trans h3).mono hw.size))
set_option maxRecDepth 100000 in
set_option maxHeartbeats 4000000 in
theorem eachE1_any {f : Pg × Tg → Vt × Int} {P : Pg × Tg → Prop} {B bf N : Nat} {r : Value} {w' : World} (hv : EvF f P w' N r) (hB : B ≤ w'.heap.size) (hf : w'.cell? ⟨bf, 0, none⟩ = some (.func (.func N) #[r] #[])) {Q : Nat → Prop} {x : Pg × Tg} (hP : P x) {a : Option Addr} {m d : Nat} {css : List (List Value)} (ho : OwnR 44 3 B w' (.slice a m d) css) (hl : css.length ≤ 500) {cs : List Value} (hx : eG.E Q w' x cs) :
    Calls Tryz.prog 140 #[.slice a m d, .agg cs.toArray, .pointer (some ⟨bf, 0, none⟩)] w' fun en w'' => ∃ a2 m2 d2, en = .returned (.tuple #[.slice a2 m2 d2, .int .i64 (f x).2]) ∧ Below B w' w'' ∧ OwnR 44 3 B w'' (.slice a2 m2 d2) (css ++ [[.int .i64 (f x).1.1, .int .i64 (f x).1.2.1, .string (f x).1.2.2]]) := by
  obtain ⟨hcf, hN⟩ := hv
  have hEx' := hx
  obtain ⟨ea, en, ec, rfl, -⟩ := hEx'
  simp only [exC] at *
  have HX := hN x Q [.int .i64 x.1.1, .int .i64 x.1.2.1, .int .i64 x.1.2.2.1, .string x.1.2.2.2.1, .string x.1.2.2.2.2.1, .string x.1.2.2.2.2.2, .slice ea en ec] (w'.alloc (.cells #[.int .i64 x.1.1, .int .i64 x.1.2.1, .int .i64 x.1.2.2.1, .string x.1.2.2.2.1, .string x.1.2.2.2.2.1, .string x.1.2.2.2.2.2, .slice ea en ec] 63)) hP (bal (Below.refl _ _) _) (eG.keep (fun b _ hl => (bal (Below.refl _ _) _).block b hl) hx)
  have bx := Bk.new w' (.cells #[.int .i64 x.1.1, .int .i64 x.1.2.1, .int .i64 x.1.2.2.1, .string x.1.2.2.2.1, .string x.1.2.2.2.2.1, .string x.1.2.2.2.2.2, .slice ea en ec] 63)
  have ho1 := ho.alloc (.cells #[.int .i64 x.1.1, .int .i64 x.1.2.1, .int .i64 x.1.2.2.1, .string x.1.2.2.2.1, .string x.1.2.2.2.2.1, .string x.1.2.2.2.2.2, .slice ea en ec] 63)
  have hb1 := Below.alloc (Below.refl B w') hB (.cells #[.int .i64 x.1.1, .int .i64 x.1.2.1, .int .i64 x.1.2.2.1, .string x.1.2.2.2.1, .string x.1.2.2.2.2.1, .string x.1.2.2.2.2.2, .slice ea en ec] 63)
  have hB1 : B ≤ (w'.alloc (.cells #[.int .i64 x.1.1, .int .i64 x.1.2.1, .int .i64 x.1.2.2.1, .string x.1.2.2.2.1, .string x.1.2.2.2.2.1, .string x.1.2.2.2.2.2, .slice ea en ec] 63)).heap.size := Nat.le_trans hB hb1.size
  have hf1 := cell_later (bal (Below.refl _ _) (.cells #[.int .i64 x.1.1, .int .i64 x.1.2.1, .int .i64 x.1.2.2.1, .string x.1.2.2.2.1, .string x.1.2.2.2.2.1, .string x.1.2.2.2.2.2, .slice ea en ec] 63)) hf
  clear ho hN hx hf hP
  generalize f x = R at *
  replace HX : Hid _ := hid HX
  go_enter Tryz.func140, Tryz.ntmps140
  go_upto_region 1 with fail
  generalize w'.alloc (.cells #[.int .i64 x.1.1, .int .i64 x.1.2.1, .int .i64 x.1.2.2.1, .string x.1.2.2.2.1, .string x.1.2.2.2.2.1, .string x.1.2.2.2.2.2, .slice ea en ec] 63) = W at *
  have d0 := bx.cell 0
  have d1 := bx.cell 1
  have d2 := bx.cell 2
  have d3 := bx.cell 3
  have d4 := bx.cell 4
  have d5 := bx.cell 5
  have d6 := bx.cell 6
  simp only [List.getElem?_toArray, List.getElem?_cons_zero, List.getElem?_cons_succ] at d0 d1 d2 d3 d4 d5 d6
  clear bx
  go_wp2_with fail
  refine Calls.mono HX.out ?_
  rintro e w4 ⟨rfl, hb4⟩
  have ho4 := (ho1.later hb4).alloc (.cells #[.int .i64 R.1.1, .int .i64 R.1.2.1, .string R.1.2.2] 44)
  have hB4 := hb1.trans (hb4.mono hB1)
  have hB4' : B ≤ w4.heap.size := Nat.le_trans hB hB4.size
  have hB5 := hB4.alloc hB4' (.cells #[.int .i64 R.1.1, .int .i64 R.1.2.1, .string R.1.2.2] 44)
  have hB5' : B ≤ (w4.alloc (.cells #[.int .i64 R.1.1, .int .i64 R.1.2.1, .string R.1.2.2] 44)).heap.size := Nat.le_trans hB hB5.size
  have by0 := Bk.new w4 (.cells #[.int .i64 R.1.1, .int .i64 R.1.2.1, .string R.1.2.2] 44)
  clear HX hf1 ho1 hb1 hb4 hB4 hcf d0 d1 d2 d3 d4 d5 d6
  go_upto_region 2 with fail
  generalize w4.alloc (.cells #[.int .i64 R.1.1, .int .i64 R.1.2.1, .string R.1.2.2] 44) = W5 at *
  have y0 := by0.cell 0
  have y1 := by0.cell 1
  have y2 := by0.cell 2
  simp only [List.getElem?_toArray, List.getElem?_cons_zero, List.getElem?_cons_succ] at y0 y1 y2
  have ho5 := ho4.alloc (.cells #[.int .i64 R.1.1, .int .i64 R.1.2.1, .string R.1.2.2] 44)
  have hB6 := hB5.alloc hB5' (.cells #[.int .i64 R.1.1, .int .i64 R.1.2.1, .string R.1.2.2] 44)
  have hB6' : B ≤ (W5.alloc (.cells #[.int .i64 R.1.1, .int .i64 R.1.2.1, .string R.1.2.2] 44)).heap.size := Nat.le_trans hB hB6.size
  have hblk := ho4.blk
  clear by0 ho4
  go_wp2_with (first | (at_builtin; go_must (refine wpList_appR Tryz.underlying42 Tryz.infoTVal rfl (by decide) (by decide) rfl (.tmp 15) (.tmp 17) rfl _ css W5.heap.size [.int .i64 R.1.1, .int .i64 R.1.2.1, .string R.1.2.2] rfl rfl ho5 rfl (by simp [Value.oneCell']) (new3 W5 _ _ _ _) (by omega) hB6' ?_)) | fail)
  intro v' w6 hO6 hg6 hown
  have hB7 := below_grows hB6 hB6' hg6 fun k e => (hblk k e).1
  obtain ⟨a2, m2, d2, rfl⟩ := hO6.sl
  clear hg6 hown ho5 hB5 hB6 hblk
  go_wp2
  exact bodyPost_ret (v := .tuple #[.slice a2 m2 d2, .int .i64 R.2]) (by simp [results, Tryz.results140]) rfl ⟨a2, m2, d2, rfl, hB7, hO6⟩

set_option maxRecDepth 100000 in
set_option maxHeartbeats 4000000 in
theorem eachE_any {l : List (Pg × Tg)} (hlen : l.length ≤ 2) {f : Pg × Tg → Vt × Int} {P : Pg × Tg → Prop} {Q : Nat → Prop} {w : World} {ao : Option Addr} {n c : Nat} (h : RowIs eG Q w (.slice ao n c) l) {N : Nat} {r : Value} (hv : EvF f P w N r) (hP : ∀ x ∈ l, P x) :
    Calls Tryz.prog 125 #[.slice ao n c, .func (.func N) #[r] #[]] w fun en w' => ∃ a m d, en = .returned (.tuple #[.slice a m d, .int .i64 (erL (l.map fun x => (f x).2))]) ∧ Below w.heap.size w w' ∧ (erL (l.map fun x => (f x).2) = 0 → RowIs eVal (fun _ => True) w' (.slice a m d) (l.map fun x => (f x).1)) := by
  have hw := bal (Below.refl w.heap.size w) (.cells #[.func (.func N) #[r] #[]] 160)
  have hf := cell_new w #[.func (.func N) #[r] #[]] 160 (0, 0) 0
  simp only [List.getElem?_toArray, List.getElem?_cons_zero] at hf
  generalize hW : w.alloc (.cells #[.func (.func N) #[r] #[]] 160) = W at hw hf
  obtain ⟨hn, hnc, hc⟩ := row_lens h
  have hcf : ∀ args w', (callFunc 140 args).run Tryz.prog w' = .ok (.enter 140 args) w' := fun args w' => by rfl
  have HE : erO (fun i => ((l.map fun x => (f x).2)[i]?).getD 0) l.length = erL (l.map fun x => (f x).2) := by
    have := erO_list (l := l.map fun x => (f x).2) (er := fun i => ((l.map fun x => (f x).2)[i]?).getD 0) fun i hi => by rw [List.getElem?_eq_getElem hi]; rfl
    rwa [List.length_map] at this
  have HC : Hid (∀ Wc, OwnR 44 3 W.heap.size Wc (.slice (some ⟨W.heap.size, 0, none⟩) 0 n) [] → Below W.heap.size W Wc → _) := hid fun Wc ho hb2 => by
    have hf2 := cell_later hb2 hf
    have hlW : w.heap.size < W.heap.size := by rw [← hW, World.size_alloc]; omega
    have hr1 : RowIs eG (fun b => b < W.heap.size) Wc (.slice ao n c) l := ((h.mono (by decide) fun b _ hl => hl).keep (by decide) fun b hq _ => (Below.on hw hb2).block b hq).mono (by decide) fun b hq _ => Nat.lt_of_lt_of_le hq hw.size
    have := foldVExsl (B := W.heap.size) (Nat.le_trans hlen (by decide)) hb2.size (fun b hq => hq) hr1 (caps := #[.pointer (some ⟨w.heap.size, 0, none⟩)]) hcf (fun i => ((l.map fun x => (f x).2)[i]?).getD 0) (fun i w' a m d => Below W.heap.size Wc w' ∧ OwnR 44 3 W.heap.size w' (.slice a m d) ((l.take i).map fun x => [.int .i64 (f x).1.1, .int .i64 (f x).1.2.1, .string (f x).1.2.2]))
      (fun i w' a m d hI => hI.1) (fun i w' a m d o hI => ⟨hI.1.alloc (Nat.le_trans hb2.size hI.1.size) o, hI.2.alloc o⟩) (a0 := some ⟨W.heap.size, 0, none⟩) (m0 := 0) (d0 := n) ⟨Below.refl _ _, ho⟩
      (fun i hi w' a m d cs hI hx => by
        refine Calls.mono (eachE1_any (hv.lat hw hb2 hI.1) (Nat.le_trans hb2.size hI.1.size) ((hI.1.cell hlW).trans hf2) (hP _ (List.getElem_mem hi)) hI.2 (by rw [List.length_map, List.length_take]; omega) hx) ?_
        rintro en w'' ⟨a2, m2, d2, rfl, hb3, ho2⟩
        refine ⟨a2, m2, d2, ?_, hI.1.trans hb3, fun _ => ⟨hI.1.trans hb3, ?_⟩⟩
        · rw [List.getElem?_eq_getElem (by simpa using hi), List.getElem_map]; rfl
        · rw [List.take_succ_eq_append_getElem hi, List.map_append]; exact ho2)
    rw [HE] at this
    exact this
  clear HE hcf h hf
  generalize erL (l.map fun x => (f x).2) = E at *
  obtain ⟨ti, ht1, ht2, ht3, ht4⟩ := info_parts Tryz.infoTVal
  have hW2 : w.heap.size + 1 = W.heap.size := by rw [← hW, World.size_alloc]
  go_enter Tryz.func125, Tryz.ntmps125
  go_upto_region 1 with fail
  go_wp2_with (first | (at_make; go_must (refine wpList_make_own W rfl _ _ 42 rfl W.heap.size 44 ti _ 3 Tryz.underlying42 ht1 ht2 ht3 .i64 .i64 (n : Int) n rfl rfl rfl (by rw [ht4]; omega) (by rw [← hn]; exact Nat.le_trans hlen (by decide)) (Nat.le_refl _) ?_)) | fail)
  intro Wc ho hg
  have hb2 : Below W.heap.size W Wc := below_grows (Below.refl _ _) (Nat.le_refl _) hg (by simp)
  have HC2 : Hid _ := hid (HC.out Wc ⟨fun cs h => by simp at h, ho⟩ hb2)
  clear HC ho hg
  go_wp2_with fail
  refine Calls.mono HC2.out ?_
  rintro e w4 ⟨a, m, d, rfl, hb4, hI, -⟩
  have HI : Hid _ := hid hI
  have hB4 : Below w.heap.size w w4 := (Below.on hw hb2).trans (hb4.mono hw.size)
  clear HC2 hI hb4
  go_wp2
  refine bodyPost_ret (v := .tuple #[.slice a m d, .int .i64 E]) (by simp [results, Tryz.results125]) rfl ⟨a, m, d, rfl, hB4, fun h0 => ?_⟩
  obtain ⟨hB, ho⟩ := HI.out h0
  rw [List.take_length] at ho
  exact OwnR.rowE (e := eVal) ho (by simp) (fun _ _ _ => trivial) fun i h1 h2 => by
    show _ = _
    simp

set_option maxRecDepth 100000 in
set_option maxHeartbeats 4000000 in
theorem upTo1_any {f : Pg × Tg → Vt × Int} {P : Pg × Tg → Prop} {be bs : Nat} {sa sb : Value} {w' : World} (hv : EvF f P w' 95 (.agg #[sa, sb])) (z last : Int) (hz : w'.cell? ⟨be, 0, none⟩ = some (.int .i64 z)) (hs0 : w'.cell? ⟨bs, 0, none⟩ = some sa) (hs1 : w'.cell? ⟨bs, 1, none⟩ = some sb) (hsl : ∃ a n c a2 n2 c2, sa = .slice a n c ∧ sb = .slice a2 n2 c2) {Q : Nat → Prop} {x : Pg × Tg} (hP : P x) {cs : List Value} (hx : eG.E Q w' x cs) :
    Calls Tryz.prog 136 #[.int .i64 last, .agg cs.toArray, .pointer (some ⟨be, 0, none⟩), .pointer (some ⟨bs, 0, none⟩)] w' fun en w'' => en = .returned (.tuple #[.int .i64 (if last = z then z else (boP (f x)).1), .int .i64 (if last = z then 0 else (boP (f x)).2)]) ∧ Below w'.heap.size w' w'' := by
  obtain ⟨hcf, hN⟩ := hv
  obtain ⟨a, n, c, a2, n2, c2, rfl, rfl⟩ := hsl
  have hEx' := hx
  obtain ⟨ea, en, ec, rfl, -⟩ := hEx'
  simp only [exC] at *
  have HX := hN x Q [.int .i64 x.1.1, .int .i64 x.1.2.1, .int .i64 x.1.2.2.1, .string x.1.2.2.2.1, .string x.1.2.2.2.2.1, .string x.1.2.2.2.2.2, .slice ea en ec] (w'.alloc (.cells #[.int .i64 x.1.1, .int .i64 x.1.2.1, .int .i64 x.1.2.2.1, .string x.1.2.2.2.1, .string x.1.2.2.2.2.1, .string x.1.2.2.2.2.2, .slice ea en ec] 63)) hP (bal (Below.refl _ _) _) (eG.keep (fun b _ hl => (bal (Below.refl _ _) _).block b hl) hx)
  have bx := Bk.new w' (.cells #[.int .i64 x.1.1, .int .i64 x.1.2.1, .int .i64 x.1.2.2.1, .string x.1.2.2.2.1, .string x.1.2.2.2.2.1, .string x.1.2.2.2.2.2, .slice ea en ec] 63)
  have hb1 := bal (Below.refl w'.heap.size w') (.cells #[.int .i64 x.1.1, .int .i64 x.1.2.1, .int .i64 x.1.2.2.1, .string x.1.2.2.2.1, .string x.1.2.2.2.2.1, .string x.1.2.2.2.2.2, .slice ea en ec] 63)
  replace hz := cell_later hb1 hz
  replace hs0 := cell_later hb1 hs0
  replace hs1 := cell_later hb1 hs1
  clear hN hx hP
  generalize f x = R at *
  replace HX : Hid _ := hid HX
  by_cases hl : last = z
  · subst hl
    rw [if_pos rfl, if_pos rfl]
    clear HX hcf
    go_enter Tryz.func136, Tryz.ntmps136
    go_upto_region 1 with fail
    generalize w'.alloc (.cells #[.int .i64 x.1.1, .int .i64 x.1.2.1, .int .i64 x.1.2.2.1, .string x.1.2.2.2.1, .string x.1.2.2.2.2.1, .string x.1.2.2.2.2.2, .slice ea en ec] 63) = W at *
    clear bx
    go_wp2
    exact bodyPost_ret (v := .tuple #[.int .i64 last, .int .i64 0]) (by simp [results, Tryz.results136]) rfl ⟨rfl, hb1⟩
  · rw [if_neg hl, if_neg hl]
    have hd : decide (last = z) = false := by simpa using hl
    have HB1 : Hid (R.2 ≠ 0 → boP R = (0, R.2)) := hid fun h => by unfold boP; rw [if_pos h]
    have HB0 : Hid (R.2 = 0 → boP R = knP R.1 3) := hid fun h => by unfold boP; rw [if_neg (by simpa using h)]
    obtain ⟨BR, hBR⟩ : ∃ BR, boP R = BR := ⟨_, rfl⟩
    rw [hBR] at HB1 HB0 ⊢
    clear hBR
    have HI : Hid _ := hid (intOfV_any R.1 3)
    generalize knP R.1 3 = KR at *
    go_enter Tryz.func136, Tryz.ntmps136
    go_upto_region 1 with fail
    generalize w'.alloc (.cells #[.int .i64 x.1.1, .int .i64 x.1.2.1, .int .i64 x.1.2.2.1, .string x.1.2.2.2.1, .string x.1.2.2.2.2.1, .string x.1.2.2.2.2.2, .slice ea en ec] 63) = W at *
    have d0 := bx.cell 0
    have d1 := bx.cell 1
    have d2 := bx.cell 2
    have d3 := bx.cell 3
    have d4 := bx.cell 4
    have d5 := bx.cell 5
    have d6 := bx.cell 6
    simp only [List.getElem?_toArray, List.getElem?_cons_zero, List.getElem?_cons_succ] at d0 d1 d2 d3 d4 d5 d6
    clear bx
    go_wp2_with fail
    refine Calls.mono HX.out ?_
    rintro e w4 ⟨rfl, hb4⟩
    have hB4 := Below.on hb1 hb4
    have hB5 := bal hB4 (.cells #[.int .i64 R.1.1, .int .i64 R.1.2.1, .string R.1.2.2] 44)
    have by0 := Bk.new w4 (.cells #[.int .i64 R.1.1, .int .i64 R.1.2.1, .string R.1.2.2] 44)
    clear HX hcf d0 d1 d2 d3 d4 d5 d6 hb1 hb4 hB4 hz hs0 hs1
    go_upto_region 4 with fail
    generalize w4.alloc (.cells #[.int .i64 R.1.1, .int .i64 R.1.2.1, .string R.1.2.2] 44) = W5 at *
    have y0 := by0.cell 0
    have y1 := by0.cell 1
    have y2 := by0.cell 2
    simp only [List.getElem?_toArray, List.getElem?_cons_zero, List.getElem?_cons_succ] at y0 y1 y2
    clear by0
    obtain ⟨R1, R2⟩ := R
    dsimp only at *
    by_cases h0 : R2 = 0
    · obtain rfl := HB0.out h0
      subst h0
      clear HB0 HB1
      go_wp2_with fail
      refine Calls.mono (HI.out _) ?_
      rintro e w6 ⟨rfl, hb6⟩
      have hB6 := Below.on hB5 hb6
      clear HI hB5 hb6
      go_wp2
      exact bodyPost_ret (v := .tuple #[.int .i64 BR.1, .int .i64 BR.2]) (by simp [results, Tryz.results136]) rfl ⟨rfl, hB6⟩
    · obtain rfl := HB1.out h0
      have h0' : (R2 != 0) = true := by simpa using h0
      have h0d : decide (R2 = 0) = false := by simpa using h0
      clear HB0 HB1 HI
      go_wp2
      exact bodyPost_ret (v := .tuple #[.int .i64 0, .int .i64 R2]) (by simp [results, Tryz.results136]) rfl ⟨rfl, hB5⟩

end Go.Proofs.YtnlaaejdianfjaaGreat
namespace Go.Proofs.YtnlaaejdianfjaaGreat
open Go.RowKit
set_option linter.unusedVariables false
set_option linter.unusedSimpArgs false

theorem up_plain {z e0 e1 l1 b1 a2 E : Int} {r0 r1 : Vt × Int} (h0 : boP r0 = (l1, e0)) (h1 : boP r1 = (b1, e1)) (hE : E = erL [e0, if l1 = z then 0 else e1]) (hk : E = 0 → a2 = if l1 = z then z else b1) (hn : E ≠ 0 → a2 = 0) : (trV (decide (a2 = 1)), E) = upP z r0 r1 := by
  unfold upP
  rw [h0, h1]
  by_cases k0 : e0 = 0
  · subst k0
    rw [if_neg (by simp)]
    simp only [erL, if_true] at hE
    by_cases k1 : l1 = z
    · rw [if_pos k1] at hE hk ⊢
      simp only [if_true] at hE
      subst hE
      rw [hk rfl]
    · rw [if_neg k1] at hE hk ⊢
      by_cases k2 : e1 = 0
      · rw [if_pos k2] at hE
        subst hE
        rw [if_neg (by simpa using k2), hk rfl]
      · rw [if_neg k2] at hE
        rw [if_pos (by simpa using k2)]
        subst hE
        rw [hn k2]
        rfl
  · rw [if_pos (by simpa using k0)]
    simp only [erL] at hE
    rw [if_neg k0] at hE
    subst hE
    rw [hn k0]
    rfl
set_option maxRecDepth 100000 in
set_option maxHeartbeats 4000000 in
theorem upTo_any {f : Pg × Tg → Vt × Int} {P : Pg × Tg → Prop} (z : Int) (hz01 : z = 0 ∨ z = 1) {a : Option Addr} {n c : Nat} {a2 : Option Addr} {n2 c2 : Nat} {w : World} (hv : EvF f P w 95 (.agg #[.slice a n c, .slice a2 n2 c2])) {Q : Nat → Prop} {x y : Pg × Tg} (hx : P x) (hy : P y) {ao : Option Addr} {m d : Nat} (h : RowIs eG Q w (.slice ao m d) [x, y]) :
    Calls Tryz.prog 124 #[.agg #[.slice a n c, .slice a2 n2 c2], .int .i64 z, .slice ao m d] w fun en w' => en = .returned (.tuple #[vV (upP z (f x) (f y)).1, .int .i64 (upP z (f x) (f y)).2]) ∧ Below w.heap.size w w' := by
  have hw := bal (bal (bal (Below.refl w.heap.size w) (.cells #[.slice a n c, .slice a2 n2 c2] 157)) (.cells #[.int .i64 z] 2)) zV
  have bS : Bk (((w.alloc (.cells #[.slice a n c, .slice a2 n2 c2] 157)).alloc (.cells #[.int .i64 z] 2)).alloc zV) w.heap.size (.cells #[.slice a n c, .slice a2 n2 c2] 157) := ((Bk.new w _).later (bal (Below.refl _ _) _)).later (bal (Below.refl _ _) _)
  have bZ : Bk (((w.alloc (.cells #[.slice a n c, .slice a2 n2 c2] 157)).alloc (.cells #[.int .i64 z] 2)).alloc zV) (w.heap.size + 1) (.cells #[.int .i64 z] 2) := by
    have := (Bk.new (w.alloc (.cells #[.slice a n c, .slice a2 n2 c2] 157)) (.cells #[.int .i64 z] 2)).later (bal (Below.refl _ _) zV)
    rwa [World.size_alloc] at this
  have hz : Bv (((w.alloc (.cells #[.slice a n c, .slice a2 n2 c2] 157)).alloc (.cells #[.int .i64 z] 2)).alloc zV) (w.heap.size + 2) 0 0 ⟨#[]⟩ := by
    have := Bv.new ((w.alloc (.cells #[.slice a n c, .slice a2 n2 c2] 157)).alloc (.cells #[.int .i64 z] 2))
    rwa [World.size_alloc, World.size_alloc] at this
  generalize hW : ((w.alloc (.cells #[.slice a n c, .slice a2 n2 c2] 157)).alloc (.cells #[.int .i64 z] 2)).alloc zV = W at hw bS bZ hz
  have s0 := bS.cell 0
  have s1 := bS.cell 1
  have z0 := bZ.cell 0
  simp only [List.getElem?_toArray, List.getElem?_cons_zero, List.getElem?_cons_succ] at s0 s1 z0
  have hv1 := hv.later hw
  obtain ⟨l1, e0, hr0⟩ : ∃ l1 e0, boP (f x) = (l1, e0) := ⟨_, _, rfl⟩
  obtain ⟨b1, e1, hr1⟩ : ∃ b1 e1, boP (f y) = (b1, e1) := ⟨_, _, rfl⟩
  have hne : ¬ 1 - z = z := by omega
  have hcf : ∀ args w', (callFunc 136 args).run Tryz.prog w' = .ok (.enter 136 args) w' := fun args w' => by rfl
  have hr : RowIs eG (fun b => b < W.heap.size) W (.slice ao m d) [x, y] := (h.keep (by decide) fun b _ hl => hw.block b hl).mono (by decide) fun b _ hl => hl
  have HF : Hid (Calls Tryz.prog 135 #[.slice ao m d, .int .i64 (1 - z), .func (.func 136) #[] #[.pointer (some ⟨w.heap.size + 1, 0, none⟩), .pointer (some ⟨w.heap.size, 0, none⟩)]] W fun en w' => ∃ k E : Int, en = .returned (.tuple #[.int .i64 k, .int .i64 E]) ∧ Below W.heap.size W w' ∧ (trV (decide (k = 1)), E) = upP z (f x) (f y)) := hid (by
    have := foldVExin (l := [x, y]) (B := W.heap.size) (by simp) (Nat.le_refl _) (fun b hq => hq) hr (caps := #[.pointer (some ⟨w.heap.size + 1, 0, none⟩), .pointer (some ⟨w.heap.size, 0, none⟩)]) hcf (fun i => if i = 0 then e0 else if l1 = z then 0 else e1) (fun i w' k => Below W.heap.size W w' ∧ k = if i = 0 then 1 - z else if i = 1 then l1 else if l1 = z then z else b1)
      (fun i w' k hI => hI.1) (fun i w' k o hI => ⟨bal hI.1 o, hI.2⟩) (a0 := 1 - z) ⟨Below.refl _ _, rfl⟩
      (fun i hi w' k cs hI hE => by
        have hi' : i < 2 := hi
        have g := fun (u : Pg × Tg) (hu : P u) (hE : eG.E (fun b => b < W.heap.size) w' u cs) => upTo1_any (hv1.later hI.1) z k (cell_later hI.1 z0) (cell_later hI.1 s0) (cell_later hI.1 s1) ⟨_, _, _, _, _, _, rfl, rfl⟩ hu hE
        rcases (show i = 0 ∨ i = 1 by omega) with rfl | rfl
        · obtain rfl : k = 1 - z := hI.2
          refine Calls.mono (g x hx hE) ?_
          rintro en w3 ⟨rfl, hb3⟩
          rw [if_neg hne, if_neg hne, hr0]
          exact ⟨l1, rfl, Below.on hI.1 hb3, fun _ => ⟨Below.on hI.1 hb3, rfl⟩⟩
        · obtain rfl : k = l1 := hI.2
          refine Calls.mono (g y hy hE) ?_
          rintro en w3 ⟨rfl, hb3⟩
          rw [hr1]
          exact ⟨if k = z then z else b1, rfl, Below.on hI.1 hb3, fun _ => ⟨Below.on hI.1 hb3, rfl⟩⟩)
    refine Calls.mono this ?_
    rintro en w3 ⟨k, rfl, hb3, g1, g2⟩
    have eE : erO (fun i => if i = 0 then e0 else if l1 = z then 0 else e1) [x, y].length = erL [e0, if l1 = z then 0 else e1] := rfl
    rw [eE] at g1 g2 ⊢
    exact ⟨k, _, rfl, hb3, up_plain hr0 hr1 rfl (fun h => (g1 h).2) g2⟩)
  obtain ⟨hm, hmd, hdm⟩ := row_lens h
  clear hv hv1 hr h hcf bS bZ s0 s1 hr0 hr1 hne hx hy
  obtain ⟨U, hU⟩ : ∃ U, upP z (f x) (f y) = U := ⟨_, rfl⟩
  rw [hU] at HF ⊢
  clear hU
  rcases hz01 with rfl | rfl
  all_goals
    go_enter Tryz.func124, Tryz.ntmps124
    go_wp2_with fail
    refine Calls.mono HF.out ?_
    rintro e w4 ⟨k, E, rfl, hb4, hUe⟩
    have HT : Hid _ := hid (truthE_any (decide (k = 1)))
    obtain ⟨D, hD⟩ : ∃ D, decide (k = 1) = D := ⟨_, rfl⟩
    have hD2 : (k == 1) = D := by rw [← hD]; rfl
    have HU : Hid ((trV D, E) = U) := hid (hD ▸ hUe)
    rw [hD] at HT
    clear hUe
    have hB4 := Below.on hw hb4
    have hz4 := hz.later hb4
    clear HF hz hb4 hw hW z0
    go_wp2_with fail
    refine Calls.mono (HT.out _) ?_
    rintro e w5 ⟨rfl, hb5⟩
    have hB5 := Below.on hB4 hb5
    have hz5 := hz4.later hb5
    obtain ⟨c0, c1, c2⟩ := hz5.cells
    obtain ⟨f0, f1, f2⟩ := hz5.free
    have hl := hz5.lt
    clear HT hz4 hz5 hB4 hb5 hD hD2
    go_wp2
    exact bodyPost_ret (v := .tuple #[vV (trV D), .int .i64 E]) (by simp [results, Tryz.results124, go_sem, c0, c1, c2]) rfl ⟨by rw [← HU.out], below3 hB5 (by omega) _ _ _⟩

end Go.Proofs.YtnlaaejdianfjaaGreat
namespace Go.Proofs.YtnlaaejdianfjaaGreat
open Go.RowKit
set_option linter.unusedVariables false
set_option linter.unusedSimpArgs false

/-- What a round may not touch, wherever it lies: all that is no cells, and the yields that iterators keep. -/
def prt : Obj → Bool
  | .cells _ t _ => decide (t = 124)
  | _ => true
/-- What a round leaves as it was: all that the iterator had ahead of it, and of all from B on what it may not touch. -/
structure Kps (n B : Nat) (W W' : World) : Prop where
  low : Below n W W'
  oth : ∀ k o, B ≤ k → W.heap[k]? = some o → prt o = true → W'.heap[k]? = some o
theorem Kps.refl (n B : Nat) (W : World) : Kps n B W W := ⟨Below.refl _ _, fun _ _ _ h _ => h⟩
theorem Kps.trans {n B : Nat} {X Y Z : World} (h : Kps n B X Y) (k : Kps n B Y Z) : Kps n B X Z := ⟨h.low.trans k.low, fun i o hi hx hp => k.oth i o hi (h.oth i o hi hx hp) hp⟩
theorem Kps.mono {n B n' B' : Nat} {X Y : World} (h : Kps n B X Y) (hn : n' ≤ n) (hB : B ≤ B') : Kps n' B' X Y :=
  ⟨h.low.mono hn, fun k o hk => h.oth k o (Nat.le_trans hB hk)⟩
theorem Kps.of_below {n B : Nat} {X Y : World} (h : Below X.heap.size X Y) (hn : n ≤ X.heap.size) : Kps n B X Y :=
  ⟨h.mono hn, fun k o _ hk _ => (h.block k (Array.getElem?_eq_some_iff.1 hk).1).trans hk⟩
/-- A step that turns one block, of cells that may be touched. -/
theorem Kps.grown {n B : Nat} {X Y : World} {row : Option Nat} (hg : X.grownBy Y row) (hn : n ≤ X.heap.size) (hr : ∀ r, row = some r → n ≤ r ∧ ∀ o, X.heap[r]? = some o → prt o = false) : Kps n B X Y :=
  ⟨(Below.refl n X).grown hg hn fun k e => (hr k e).1, fun k o _ hk hp => (hg.block k (Array.getElem?_eq_some_iff.1 hk).1 fun e => by have := (hr k e.symm).2 o hk; rw [hp] at this; cases this).trans hk⟩
theorem Kps.setCell {n B : Nat} {X : World} (a : Addr) (v : Value) (hn : n ≤ a.block) (hr : ∀ o, X.heap[a.block]? = some o → prt o = false) : Kps n B X (X.setCell a v) :=
  ⟨(Below.refl n X).setCell hn v, fun k o _ hk hp => (Below.heap_setCell X a v k fun e => by subst e; rw [hr o hk] at hp; cases hp).trans hk⟩
/-- What an iterator leaves as it was, between two rounds: all below B, all cells. -/
structure Gr (B : Nat) (V W : World) : Prop where
  os : W.os = V.os
  tape : W.tape = V.tape
  output : W.output = V.output
  size : V.heap.size ≤ W.heap.size
  block : ∀ k o, V.heap[k]? = some o → (k < B ∨ o.isCells = true) → W.heap[k]? = some o
theorem Gr.refl (B : Nat) (V : World) : Gr B V V := ⟨rfl, rfl, rfl, Nat.le_refl _, fun _ _ h _ => h⟩
theorem Gr.trans {B : Nat} {X Y Z : World} (h : Gr B X Y) (k : Gr B Y Z) : Gr B X Z := ⟨k.os.trans h.os, k.tape.trans h.tape, k.output.trans h.output, Nat.le_trans h.size k.size, fun i o hi ho => k.block i o (h.block i o hi ho) ho⟩
theorem Gr.mono {B B' : Nat} {X Y : World} (h : Gr B X Y) (hB : B' ≤ B) : Gr B' X Y := ⟨h.os, h.tape, h.output, h.size, fun i o hi ho => h.block i o hi (ho.imp (fun x => Nat.lt_of_lt_of_le x hB) id)⟩
theorem Gr.of_below {B : Nat} {X Y : World} (h : Below X.heap.size X Y) : Gr B X Y := ⟨h.os, h.tape, h.output, h.size, fun i o hi _ => (h.block i (Array.getElem?_eq_some_iff.1 hi).1).trans hi⟩
theorem Gr.put {B : Nat} {X Y : World} (h : Gr B X Y) {l : Nat} {o : Obj} (o' : Obj) (hB : B ≤ l) (hl : Y.heap[l]? = some o) (ho : o.isCells = false) : Gr B X (Y.putObj l o') :=
  h.trans ⟨rfl, rfl, rfl, by simp, fun i p hi hp => by
    by_cases e : i = l
    · subst e
      rw [hl] at hi; cases hi
      rcases hp with hp | hp
      · omega
      · rw [ho] at hp; cases hp
    · exact (World.putObj_heap_other e).trans hi⟩
theorem Gr.below {B n : Nat} {X Y : World} (h : Gr B X Y) (hn : n ≤ B) (hx : n ≤ X.heap.size) : Below n X Y := ⟨h.os, h.tape, h.output, h.size, fun k hk => by
  have hk' : k < X.heap.size := by omega
  rw [Array.getElem?_eq_getElem hk']
  exact h.block k _ (Array.getElem?_eq_getElem hk') (.inl (by omega))⟩
theorem Gr.cell {B : Nat} {X Y : World} (h : Gr B X Y) {a : Addr} {v : Value} (hc : X.cell? a = some v) : Y.cell? a = some v ∧ Y.frozen? a = X.frozen? a := by
  have hb : a.block < X.heap.size := World.block_lt_of_cell? _ _ hc
  have ho : (X.heap[a.block]).isCells = true := by
    unfold World.cell? at hc
    rw [Array.getElem?_eq_getElem hb] at hc
    generalize X.heap[a.block] = o at *
    cases o <;> first | rfl | (simp at hc)
  have hk : Y.heap[a.block]? = X.heap[a.block]? := by
    rw [Array.getElem?_eq_getElem hb]
    exact h.block a.block _ (Array.getElem?_eq_getElem hb) (.inr ho)
  exact ⟨(World.cell?_of_block hk).trans hc, World.frozen?_of_block hk⟩
/-- An iterator that tells N things, the k-th such as A says, whoever asks, as long as he keeps what there was. -/
def SeqW (P : Program) (g : Nat) (lb : Array Value) (N : Nat) (A : Nat → Nat → World → Array Value → Prop) (w0 : World) : Prop :=
  ∀ (l : Nat) (J Jx : Nat → World → Prop) (W : World), Below w0.heap.size w0 W →
    (∀ k W1 W2 xs, k < N → J k W1 → Below w0.heap.size w0 W2 → Gr W.heap.size W1 W2 → A k W1.heap.size W2 xs → YieldAt Fence.wide 0 P l xs W2 fun e W' => Kps w0.heap.size W.heap.size W2 W' ∧ ((e = .returned (.bool true) ∧ J (k + 1) W') ∨ (e = .returned (.bool false) ∧ Jx (k + 1) W'))) →
    J 0 W → Calls P g (#[.func (.yield l) #[] #[]] ++ lb) W fun e W' => (∃ v, e = .returned v) ∧ Below w0.heap.size w0 W' ∧ ∃ W1, Gr W.heap.size W1 W' ∧ (J N W1 ∨ ∃ k, k ≤ N ∧ Jx k W1)
theorem kps_put {n : Nat} (W : World) {l : Nat} {o : Obj} (o' : Obj) (hn : n ≤ l) (hl : W.heap[l]? = some o) : Below n W (W.putObj l o') :=
  (Below.refl n W).grown (grownBy_putObj' W l o') (by have := (Array.getElem?_eq_some_iff.1 hl).1; omega) (fun k e => by cases e; exact hn)
/-- How a round may end. -/
def rndP (n B : Nat) (I : Nat → World → Prop) (Ix : Code → Nat → World → Prop) (k : Nat) (W : World) : Exit → Act → World → Prop
  | .normal, _, W' => Kps n B W W' ∧ I k W'
  | .ret, _, W' => Kps n B W W' ∧ Ix .ret k W'
  | .exit id, _, W' => Kps n B W W' ∧ Ix (.exit id) k W'
  | .goto t, _, W' => Kps n B W W' ∧ Ix (.goto t) k W'
  | _, _, _ => False
set_option maxRecDepth 10000 in
/-- The loop. -/
theorem range_any {P : Program} {g : Operand} {ps : Array Tmp} {assign body : Code} {Q : Exit → Act → World → Prop} {a : Act} {w : World} {gf : Nat} {lb : Array Value} {N : Nat} {A : Nat → Nat → World → Array Value → Prop} {w0 : World}
    (hg : a.eval g = .func (.func gf) #[] lb) (eg : ∀ args w, (callFunc gf args).run P w = .ok (.enter gf args) w) (hseq : SeqW P gf lb N A w0) (hb0 : Below w0.heap.size w0 w)
    (hA : ∀ {k s s' W W' xs}, A k s W xs → s' ≤ s → Gr 0 W W' → A k s' W' xs ∧ xs.size = ps.size)
    (I : Nat → World → Prop) (Ix : Code → Nat → World → Prop) (h0 : I 0 w) (a1 : Array Value → Act)
    (has : ∀ (l : Nat) (xs : Array Value) (W : World) (K : Act → World → Prop), (∃ k s V, A k s V xs) → K (a1 xs) W → assign.wpIn (Fence.wide.inRound l) 0 P (Exit.then K (fun _ _ _ => False)) { tmps := (ps.zip xs).foldl (fun t (p, v) => t.setIfInBounds p v) a.tmps, defers := [] } W)
    (hbo : ∀ (l k : Nat) (V W : World) (xs : Array Value), k < N → I k V → Gr w.heap.size V W → Below w0.heap.size w0 W → A k V.heap.size W xs → body.wpIn (Fence.wide.inRound l) 0 P (rndP w0.heap.size w.heap.size I Ix (k + 1) W) (a1 xs) W)
    (hdone : ∀ (D : Nat) (V W : World), w.heap.size ≤ D → I N V → Gr w.heap.size V W → Below w0.heap.size w0 W → W.heap[D]? = some (.deferred (some [])) → Q .normal { a with defers := { target := .collected D, args := #[] } :: a.defers } W)
    (hstop : ∀ (D : Nat) (c : Code) (k : Nat) (V W : World), w.heap.size ≤ D → k ≤ N → Ix c k V → Gr w.heap.size V W → Below w0.heap.size w0 W → W.heap[D]? = some (.deferred (some [])) → c.wpIn Fence.wide 0 P Q { a with defers := { target := .collected D, args := #[] } :: a.defers } W) :
    (Code.rangeFunc g ps assign body).wpIn Fence.wide 0 P Q a w := by
  refine wpIn_rangeFunc fun fn _ => ?_
  obtain ⟨R, hR⟩ : ∃ R : LoopState → Option Code → Loop, R = fun st pe => ⟨st, pe, fn, a.tmps, ps, assign, body, w.heap.size⟩ := ⟨_, rfl⟩
  have rs : ∀ st pe, (R st pe).state = st := fun st pe => by rw [hR]
  have rp : ∀ st pe, (R st pe).pending = pe := fun st pe => by rw [hR]
  obtain ⟨X, hX⟩ : ∃ X, (w.alloc (.deferred (some []))).alloc (.loop (R .ready none)) = X := ⟨_, rfl⟩
  have hXs : X.heap.size = w.heap.size + 2 := by rw [← hX]; simp
  have hwX : Below w.heap.size w X := by rw [← hX]; exact ((Below.refl _ w).alloc (Nat.le_refl _) _).alloc (by simp) _
  have hXl : X.heap[w.heap.size + 1]? = some (.loop (R .ready none)) := by
    rw [← hX]
    have := World.alloc_heap_new (w.alloc (.deferred (some []))) (.loop (R .ready none))
    rwa [World.size_alloc] at this
  have hXd : X.heap[w.heap.size]? = some (.deferred (some [])) := by
    rw [← hX]; exact (Below.heap_alloc _ _ _ (by simp)).trans (World.alloc_heap_new w _)
  have hrun : (Instr.enterLoop fn a.tmps ps assign body none).run P w = .ok (w.heap.size + 1, [{ target := .collected w.heap.size, args := #[] }]) X := by
    rw [run_enterLoop_outer, ← hX, hR]
  refine ⟨w.heap.size + 1, [{ target := .collected w.heap.size, args := #[] }], X, { target := .fn (.func gf) lb, args := #[.func (.yield (w.heap.size + 1)) #[] #[]] }, X, gf, #[.func (.yield (w.heap.size + 1)) #[] #[]] ++ lb, X, hrun, ?_, fun _ _ => trivial, ?_, fun h => by simp [Fence.wide] at h, ?_⟩
  · simp only [resolve, hg]
    simp [go_sem]
  · simp [invoke, go_sem, eg]
  have two : ∀ {Y Z : World}, Gr X.heap.size Y Z → ∀ {i : Nat} {o : Obj}, i < X.heap.size → Y.heap[i]? = some o → Z.heap[i]? = some o := fun hgr i o hi hy => hgr.block i o hy (.inl hi)
  have hw0 := hb0.size
  refine callsIn_wide.2 ((hseq (w.heap.size + 1)
    (fun k W => (∃ V, I k V ∧ Gr w.heap.size V W) ∧ W.heap[w.heap.size + 1]? = some (.loop (R .ready none)) ∧ W.heap[w.heap.size]? = some (.deferred (some [])))
    (fun k W => ∃ c, (∃ V, Ix c k V ∧ Gr w.heap.size V W) ∧ W.heap[w.heap.size + 1]? = some (.loop (R .done (some c))) ∧ W.heap[w.heap.size]? = some (.deferred (some [])))
    X (hb0.trans (hwX.mono hb0.size)) ?_ ⟨⟨w, h0, Gr.of_below hwX⟩, hXl, hXd⟩).mono ?_)
  · rintro k W1 W xs hk ⟨⟨V, hi, hV⟩, hl1, hd1⟩ hbW hgr hAx
    have hl := two hgr (by omega) hl1
    have hd := two hgr (by omega) hd1
    have hy := run_yield (P := P) (args := xs) hl (by rw [hR]; exact (hA hAx (Nat.le_refl _) (Gr.refl _ _)).2)
    obtain ⟨Y, hY⟩ : ∃ Y, W.putObj (w.heap.size + 1) (.loop (R .busy none)) = Y := ⟨_, rfl⟩
    have hbeg : (Instr.beginRound (w.heap.size + 1)).run P W = .ok () Y := by
      rw [run_beginRound hl (rs _ _), ← hY]
      exact congrArg (fun r => Result.ok () (W.putObj (w.heap.size + 1) (.loop r))) (by rw [hR])
    have hll : w.heap.size + 1 < W.heap.size := (Array.getElem?_eq_some_iff.1 hl).1
    have hYl : Y.heap[w.heap.size + 1]? = some (.loop (R .busy none)) := by rw [← hY]; exact World.putObj_heap_same hll
    have hYd : Y.heap[w.heap.size]? = some (.deferred (some [])) := by rw [← hY]; exact (World.putObj_heap_other (by omega)).trans hd
    have hWY : Below w0.heap.size W Y := by rw [← hY]; exact kps_put W _ (by omega) hl
    have hWG : Gr w.heap.size W Y := by rw [← hY]; exact (Gr.refl _ _).put _ (by omega) hl rfl
    have hsY : Y.heap.size = W.heap.size := by rw [← hY]; simp
    rw [hR] at hy
    refine ⟨fn, _, assign, body, hy, roundIn_of_wpIn trivial (has _ xs W _ ⟨_, _, _, hAx⟩ ⟨Y, hbeg, ?_⟩)⟩
    refine wpIn_mono (hbo _ k V Y xs hk hi ((hV.trans (hgr.mono (by omega))).trans hWG) (hbW.trans hWY) (hA hAx hV.size (hWG.mono (Nat.zero_le _))).1) ?_
    -- the end of a round, whichever
    have fin : ∀ (j : Option Code) (Z : World), Kps w0.heap.size w.heap.size Y Z → ∃ U, (Instr.endRound (w.heap.size + 1) j).run P Z = .ok (.bool j.isNone) U ∧ Gr w.heap.size Z U ∧
        Kps w0.heap.size X.heap.size W U ∧ U.heap[w.heap.size + 1]? = some (.loop (R (if j.isNone then .ready else .done) j)) ∧ U.heap[w.heap.size]? = some (.deferred (some [])) := fun j Z hz => by
      have hZl := hz.oth _ _ (by omega) hYl rfl
      have hZd := hz.oth _ _ (Nat.le_refl _) hYd rfl
      have hlz : w.heap.size + 1 < Z.heap.size := (Array.getElem?_eq_some_iff.1 hZl).1
      refine ⟨_, (run_endRound j hZl).trans (congrArg (fun r => Result.ok (Value.bool j.isNone) (Z.putObj (w.heap.size + 1) (.loop r))) (by rw [hR])), (Gr.refl _ _).put _ (by omega) hZl rfl, ⟨(hWY.trans hz.low).trans (kps_put Z _ (by omega) hZl), ?_⟩, World.putObj_heap_same hlz, (World.putObj_heap_other (by omega)).trans hZd⟩
      · intro i o hi ho hc
        have hne : i ≠ w.heap.size + 1 := by omega
        rw [World.putObj_heap_other hne]
        refine hz.oth i o (by omega) ?_ hc
        rw [← hY, World.putObj_heap_other hne]; exact ho
    rintro e b Z hp
    cases e with
    | normal =>
      obtain ⟨U, hr, hU, hkp, hl', hd'⟩ := fin none Z hp.1
      exact ⟨_, U, hr, hkp, .inl ⟨rfl, ⟨Z, hp.2, hU⟩, hl', hd'⟩⟩
    | ret =>
      obtain ⟨U, hr, hU, hkp, hl', hd'⟩ := fin (some .ret) Z hp.1
      exact ⟨_, U, hr, hkp, .inr ⟨rfl, _, ⟨Z, hp.2, hU⟩, hl', hd'⟩⟩
    | exit id =>
      obtain ⟨U, hr, hU, hkp, hl', hd'⟩ := fin (some (.exit id)) Z hp.1
      exact ⟨_, U, hr, hkp, .inr ⟨rfl, _, ⟨Z, hp.2, hU⟩, hl', hd'⟩⟩
    | goto t =>
      obtain ⟨U, hr, hU, hkp, hl', hd'⟩ := fin (some (.goto t)) Z hp.1
      exact ⟨_, U, hr, hkp, .inr ⟨rfl, _, ⟨Z, hp.2, hU⟩, hl', hd'⟩⟩
    | panic ch => exact hp.elim
    | outgrown => exact hp.elim
  · rintro e Z ⟨⟨v, rfl⟩, hbZ, W1, hG, ⟨⟨V, hi, hV⟩, hl1, hd1⟩ | ⟨k, hk, c, ⟨V, hi, hV⟩, hl1, hd1⟩⟩
    · have hl := two hG (by omega) hl1
      have hd := two hG (by omega) hd1
      refine ⟨none, _, (run_endLoop hl (by rw [rs]; simp)).trans (by rw [rp]), ?_⟩
      exact hdone _ V _ (Nat.le_refl _) hi ((hV.trans (hG.mono (by omega))).put _ (by omega) hl rfl) (hbZ.trans (kps_put Z _ (by omega) hl)) ((World.putObj_heap_other (by omega)).trans hd)
    · have hl := two hG (by omega) hl1
      have hd := two hG (by omega) hd1
      refine ⟨some c, _, (run_endLoop hl (by rw [rs]; simp)).trans (by rw [rp]), ?_⟩
      exact hstop _ c k V _ (Nat.le_refl _) hk hi ((hV.trans (hG.mono (by omega))).put _ (by omega) hl rfl) (hbZ.trans (kps_put Z _ (by omega) hl)) ((World.putObj_heap_other (by omega)).trans hd)
theorem SeqW.later {P : Program} {g : Nat} {lb : Array Value} {N : Nat} {A : Nat → Nat → World → Array Value → Prop} {w w' : World} (h : SeqW P g lb N A w) (hb : Below w.heap.size w w') : SeqW P g lb N A w' :=
  fun l J Jx W hW hY h0 => by
    refine (h l (fun k W1 => J k W1 ∧ Below w'.heap.size w' W1) (fun k W1 => Jx k W1 ∧ Below w'.heap.size w' W1) W (hb.trans (hW.mono hb.size)) (fun k W1 W2 xs hk hj hb2 hg hA => ?_) ⟨h0, hW⟩).mono ?_
    · have hW2 : Below w'.heap.size w' W2 := hj.2.trans (hg.below hW.size hj.2.size)
      obtain ⟨fn, tmps, assign, body, hy, hR⟩ := hY k W1 W2 xs hk hj.1 hW2 hg hA
      exact ⟨fn, tmps, assign, body, hy, hR.mono fun e W' hp => ⟨hp.1.mono hb.size (Nat.le_refl _), hp.2.imp (fun q => ⟨q.1, q.2, hW2.trans hp.1.low⟩) (fun q => ⟨q.1, q.2, hW2.trans hp.1.low⟩)⟩⟩
    · rintro e W' ⟨hv, hbW, W1, hG, ⟨hj, hq⟩ | ⟨k, hk, hj, hq⟩⟩
      · exact ⟨hv, hq.trans (hG.below hW.size hq.size), W1, hG, .inl hj⟩
      · exact ⟨hv, hq.trans (hG.below hW.size hq.size), W1, hG, .inr ⟨k, hk, hj⟩⟩

end Go.Proofs.YtnlaaejdianfjaaGreat
