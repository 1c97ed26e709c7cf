import Derived.Test.YtnlaaejdianfjabGreatQpac
import Derived.OwnWalk
namespace Go.Proofs.YtnlaaejdianfjabGreat
open Go.RowKit
set_option linter.unusedVariables false
set_option linter.unusedSimpArgs false

theorem Bv.later {w w' : World} {b : Nat} {k i : Int} {s : ByteArray} (h : Bv w b k i s) (hb : Below w.heap.size w w') : Bv w' b k i s := ⟨(hb.block b h.lt).trans h.row⟩
theorem below3 {B : Nat} {a w : World} (h : Below B a w) {b : Nat} (hb : B ≤ b) (x y z : Value) : Below B a (((w.setCell ⟨b, 0, none⟩ x).setCell ⟨b, 1, none⟩ y).setCell ⟨b, 2, none⟩ z) := ((h.setCell hb _).setCell hb _).setCell hb _
theorem OwnR.made (ty k B : Nat) (w : World) (cur : Array Value) (cap : Nat) (hb : B ≤ w.heap.size) (hm : cap ≤ maxLen) (hs : cur.size = cap * k) : OwnR ty k B (w.alloc (.cells cur ty)) (.slice (some ⟨w.heap.size, 0, none⟩) 0 cap) [] := ⟨fun cs h => by simp at h, World.ownsRow_made w cur cap hb hm hs⟩
abbrev zV : Obj := .cells #[.int .i64 0, .int .i64 0, .string ⟨#[]⟩] 39
abbrev cV (v : Vt) : Obj := .cells #[.int .i64 v.1, .int .i64 v.2.1, .string v.2.2] 39
theorem Bv.new (w : World) : Bv (w.alloc zV) w.heap.size 0 0 ⟨#[]⟩ := ⟨heap_alloc_new w _⟩

set_option maxRecDepth 100000 in
set_option maxHeartbeats 2000000 in
theorem compared_any (op : Int) (a b : Vt) (w : World) : Calls Tryz.prog 98 #[.int .i64 op, vV a, vV b] w fun e w' => e = .returned (.tuple #[vV (cmpdP op a b).1, .int .i64 (cmpdP op a b).2]) ∧ Below w.heap.size w w' := by
  obtain ⟨a0, a1, a2⟩ := a
  obtain ⟨b0, b1, b2⟩ := b
  have hw := bal (bal (bal (Below.refl w.heap.size w) (.cells #[.int .i64 a0, .int .i64 a1, .string a2] 39)) (.cells #[.int .i64 b0, .int .i64 b1, .string b2] 39)) zV
  have hz := Bv.new ((w.alloc (.cells #[.int .i64 a0, .int .i64 a1, .string a2] 39)).alloc (.cells #[.int .i64 b0, .int .i64 b1, .string b2] 39))
  rw [World.size_alloc, World.size_alloc] at hz
  by_cases hk : a0 = b0
  · subst hk
    by_cases h1 : a0 = 1 ∨ a0 = 2
    · rw [show cmpdP op (a0, a1, a2) (a0, b1, b2) = (trV (standsP op (cmpVt (a0, a1, a2) (a0, b1, b2))), 0) from if_neg (by simp; omega)]
      generalize hC : cmpVt (a0, a1, a2) (a0, b1, b2) = C
      have HC : Hid _ := hid (show ∀ w', Calls Tryz.prog 41 #[vV (a0, a1, a2), vV (a0, b1, b2)] w' fun e w'' => e = .returned (.int .i64 C) ∧ Below w'.heap.size w' w'' from fun w' => hC ▸ compare_any a0 a1 a2 a0 b1 b2 w')
      clear hC
      have HT : Hid _ := hid (truthE_any (standsP op C))
      have HS : Hid _ := hid (stands_any op C)
      generalize standsP op C = S at *
      rcases h1 with rfl | rfl
      · go_enter Tryz.func98, Tryz.ntmps98
        go_wp2_with fail
        refine Calls.mono (HC.out _) ?_
        rintro e w4 ⟨rfl, hb4⟩
        go_wp2_with fail
        refine Calls.mono (HS.out _) ?_
        rintro e w5 ⟨rfl, rfl⟩
        go_wp2_with fail
        refine Calls.mono (HT.out _) ?_
        rintro e w6 ⟨rfl, hb6⟩
        have hB := Below.on (Below.on hw hb4) hb6
        have hz6 := (hz.later hb4).later hb6
        obtain ⟨c0, c1, c2⟩ := hz6.cells
        obtain ⟨f0, f1, f2⟩ := hz6.free
        have hl := hz6.lt
        clear HC HT HS hz hz6 hb4 hb6 hw
        go_wp2
        exact bodyPost_ret (v := .tuple #[vV (trV S), .int .i64 0]) (by simp [results, Tryz.results98, go_sem, c0, c1, c2]) rfl ⟨rfl, below3 hB (by omega) _ _ _⟩
      · go_enter Tryz.func98, Tryz.ntmps98
        go_wp2_with fail
        refine Calls.mono (HC.out _) ?_
        rintro e w4 ⟨rfl, hb4⟩
        go_wp2_with fail
        refine Calls.mono (HS.out _) ?_
        rintro e w5 ⟨rfl, rfl⟩
        go_wp2_with fail
        refine Calls.mono (HT.out _) ?_
        rintro e w6 ⟨rfl, hb6⟩
        have hB := Below.on (Below.on hw hb4) hb6
        have hz6 := (hz.later hb4).later hb6
        obtain ⟨c0, c1, c2⟩ := hz6.cells
        obtain ⟨f0, f1, f2⟩ := hz6.free
        have hl := hz6.lt
        clear HC HT HS hz hz6 hb4 hb6 hw
        go_wp2
        exact bodyPost_ret (v := .tuple #[vV (trV S), .int .i64 0]) (by simp [results, Tryz.results98, go_sem, c0, c1, c2]) rfl ⟨rfl, below3 hB (by omega) _ _ _⟩
    · rw [show cmpdP op (a0, a1, a2) (a0, b1, b2) = (vZ, 11) from if_pos (by simp; omega)]
      have g1 : (a0 != 1) = true := by simp; omega
      have g2 : (a0 != 2) = true := by simp; omega
      have k1 : decide (a0 = 1) = false := by simp; omega
      have k2 : decide (a0 = 2) = false := by simp; omega
      clear h1
      go_enter Tryz.func98, Tryz.ntmps98
      go_wp2
      refine bodyPost_ret (v := .tuple #[vV vZ, .int .i64 11]) (by simp [results, Tryz.results98, go_sem]) rfl ⟨rfl, ?_⟩
      first | exact hw | exact below3 hw (by omega) _ _ _
  · rw [show cmpdP op (a0, a1, a2) (b0, b1, b2) = (vZ, 11) from if_pos (by simp; omega)]
    have g1 : (a0 != b0) = true := by simpa using hk
    have k1 : decide (a0 = b0) = false := by simpa using hk
    go_enter Tryz.func98, Tryz.ntmps98
    go_wp2
    refine bodyPost_ret (v := .tuple #[vV vZ, .int .i64 11]) (by simp [results, Tryz.results98, go_sem]) rfl ⟨rfl, ?_⟩
    first | exact hw | exact below3 hw (by omega) _ _ _

set_option maxRecDepth 100000 in
theorem reckoned1_any (v : Vt) (w : World) : Calls Tryz.prog 103 #[vV v] w fun e w' => e = .returned (.tuple #[.int .i64 (knP v 1).1, .int .i64 (knP v 1).2]) ∧ Below w.heap.size w w' := by
  obtain ⟨v0, v1, v2⟩ := v
  have hw := bal (Below.refl w.heap.size w) (.cells #[.int .i64 v0, .int .i64 v1, .string v2] 39)
  have HI : Hid _ := hid (intOfV_any (v0, v1, v2) 1)
  generalize knP (v0, v1, v2) 1 = R at *
  go_enter Tryz.func103, Tryz.ntmps103
  go_wp2_with fail
  refine Calls.mono (HI.out _) ?_
  rintro e w4 ⟨rfl, hb4⟩
  have hB := Below.on hw hb4
  clear HI hb4 hw
  go_wp2
  exact bodyPost_ret (v := .tuple #[.int .i64 R.1, .int .i64 R.2]) (by simp [results, Tryz.results103]) rfl ⟨rfl, hB⟩

theorem Tryz.infoTI64 : (Tryz.prog.info? 2).map (fun i => (i.zero, i.size, i.bytes)) = some (some (.int .i64 0), 1, 8) := by kernel_rfl
theorem newV1 (w : World) (a : Value) (ty : TypeId) : ∀ j (hj : j < [a].length), (w.alloc (.cells #[a] ty)).cell? ⟨w.heap.size, j, none⟩ = some [a][j] := by
  intro j hj
  have hj' : j < 1 := hj
  match j, hj' with
  | 0, _ => exact cell_new w _ _ _ 0
set_option maxRecDepth 100000 in
set_option maxHeartbeats 4000000 in
theorem eachV1_any {B : Nat} {bf : Nat} (v : Vt) {w' : World} (hB : B ≤ w'.heap.size) (hf : w'.cell? ⟨bf, 0, none⟩ = some (.func (.func 103) #[] #[])) {a : Option Addr} {m d : Nat} {css : List (List Value)} (ho : OwnR 2 1 B w' (.slice a m d) css) (hl : css.length ≤ 500) :
    Calls Tryz.prog 109 #[.slice a m d, vV v, .pointer (some ⟨bf, 0, none⟩)] w' fun en w'' => ∃ a2 m2 d2, en = .returned (.tuple #[.slice a2 m2 d2, .int .i64 (knP v 1).2]) ∧ Below B w' w'' ∧ OwnR 2 1 B w'' (.slice a2 m2 d2) (css ++ [[.int .i64 (knP v 1).1]]) := by
  obtain ⟨v0, v1, v2⟩ := v
  have HX : Hid _ := hid (reckoned1_any (v0, v1, v2))
  have ho1 := ho.alloc (.cells #[.int .i64 v0, .int .i64 v1, .string v2] 39)
  have hb1 := Below.alloc (Below.refl B w') hB (.cells #[.int .i64 v0, .int .i64 v1, .string v2] 39)
  have hf1 := cell_later (bal (Below.refl _ _) (.cells #[.int .i64 v0, .int .i64 v1, .string v2] 39)) hf
  have hcf : ∀ args w', (callFunc 103 args).run Tryz.prog w' = .ok (.enter 103 args) w' := fun args w' => by rfl
  have hB1 : B ≤ (w'.alloc (.cells #[.int .i64 v0, .int .i64 v1, .string v2] 39)).heap.size := Nat.le_trans hB hb1.size
  clear ho hf
  generalize knP (v0, v1, v2) 1 = R at *
  go_enter Tryz.func109, Tryz.ntmps109
  go_wp2_with fail
  refine Calls.mono (HX.out _) ?_
  rintro e w4 ⟨rfl, hb4⟩
  have ho4 := ho1.later hb4
  have hB4 := hb1.trans (hb4.mono hB1)
  have hB4' : B ≤ w4.heap.size := Nat.le_trans hB hB4.size
  have ho5 := ho4.alloc (.cells #[.int .i64 R.1] 2)
  have hB5 := hB4.alloc hB4' (.cells #[.int .i64 R.1] 2)
  have hB5' : B ≤ (w4.alloc (.cells #[.int .i64 R.1] 2)).heap.size := Nat.le_trans hB hB5.size
  have hblk := ho4.blk
  clear HX hf1 ho1 hb1 hb4 ho4 hB4 hcf
  go_wp2_with (first | (at_builtin; go_must (refine wpList_appR Tryz.underlying165 Tryz.infoTI64 rfl (by decide) (by decide) rfl (.tmp 15) (.tmp 17) rfl _ css w4.heap.size [.int .i64 R.1] rfl rfl ho5 rfl (by simp [Value.oneCell']) (newV1 w4 _ _) (by omega) hB5' ?_)) | fail)
  intro v' w6 hO6 hg6 hown
  have hB6 := below_grows hB5 hB5' hg6 fun k e => (hblk k e).1
  obtain ⟨a2, m2, d2, rfl⟩ := hO6.sl
  clear hg6 hown ho5 hB5 hblk
  go_wp2
  exact bodyPost_ret (v := .tuple #[.slice a2 m2 d2, .int .i64 R.2]) (by simp [results, Tryz.results109]) rfl ⟨a2, m2, d2, rfl, hB6, hO6⟩

set_option maxRecDepth 100000 in
set_option maxHeartbeats 4000000 in
theorem eachV_any {l : List Vt} (h0 : 0 < l.length) (hlen : l.length ≤ 2) {Q : Nat → Prop} {w : World} {ao : Option Addr} {n c : Nat} (h : RowIs eVal Q w (.slice ao n c) l) :
    Calls Tryz.prog 102 #[.slice ao n c, .func (.func 103) #[] #[]] w fun en w' => ∃ a m d, en = .returned (.tuple #[.slice a m d, .int .i64 (erL (l.map fun x => (knP x 1).2))]) ∧ Below w.heap.size w w' ∧ (erL (l.map fun x => (knP x 1).2) = 0 → RowIs eInt (fun _ => True) w' (.slice a m d) (l.map fun x => (knP x 1).1)) := by
  have hw := bal (Below.refl w.heap.size w) (.cells #[.func (.func 103) #[] #[]] 168)
  have hf := cell_new w #[.func (.func 103) #[] #[]] 168 (0, 0) 0
  simp only [List.getElem?_toArray, List.getElem?_cons_zero] at hf
  generalize hW : w.alloc (.cells #[.func (.func 103) #[] #[]] 168) = W at hw hf
  obtain ⟨_, _, _, e', hn, hnc, hc, _⟩ := id h
  cases e'
  have hcf : ∀ args w', (callFunc 109 args).run Tryz.prog w' = .ok (.enter 109 args) w' := fun args w' => by rfl
  have HE : erO (fun i => ((l.map fun x => (knP x 1).2)[i]?).getD 0) l.length = erL (l.map fun x => (knP x 1).2) := by
    have := erO_list (l := l.map fun x => (knP x 1).2) (er := fun i => ((l.map fun x => (knP x 1).2)[i]?).getD 0) fun i hi => by rw [List.getElem?_eq_getElem hi]; rfl
    rwa [List.length_map] at this
  have HC : Hid (∀ Wc, OwnR 2 1 W.heap.size Wc (.slice (some ⟨W.heap.size, 0, none⟩) 0 n) [] → Below W.heap.size W Wc → _) := hid fun Wc ho hb2 => by
    have hf2 := cell_later hb2 hf
    have hlW : w.heap.size < W.heap.size := by rw [← hW, World.size_alloc]; omega
    have hr1 : RowIs eVal (fun b => b < W.heap.size) Wc (.slice ao n c) l := ((h.mono (by decide) fun b _ hl => hl).keep (by decide) fun b hq _ => (Below.on hw hb2).block b hq).mono (by decide) fun b hq _ => Nat.lt_of_lt_of_le hq hw.size
    have := foldVVasl (B := W.heap.size) (Nat.le_trans hlen (by decide)) hb2.size (fun b hq => hq) hr1 (caps := #[.pointer (some ⟨w.heap.size, 0, none⟩)]) hcf (fun i => ((l.map fun x => (knP x 1).2)[i]?).getD 0) (fun i w' a m d => Below W.heap.size Wc w' ∧ OwnR 2 1 W.heap.size w' (.slice a m d) ((l.take i).map fun x => [.int .i64 (knP x 1).1]))
      (fun i w' a m d hI => hI.1) (fun i w' a m d o hI => ⟨hI.1.alloc (Nat.le_trans hb2.size hI.1.size) o, hI.2.alloc o⟩) (a0 := some ⟨W.heap.size, 0, none⟩) (m0 := 0) (d0 := n) ⟨Below.refl _ _, ho⟩
      (fun i hi w' a m d cs hI hx => by
        have hx' : cs = [.int .i64 l[i].1, .int .i64 l[i].2.1, .string l[i].2.2] := hx
        subst hx'
        refine Calls.mono (eachV1_any l[i] (Nat.le_trans hb2.size hI.1.size) ((hI.1.cell hlW).trans hf2) hI.2 (by rw [List.length_map, List.length_take]; omega)) ?_
        rintro en w'' ⟨a2, m2, d2, rfl, hb3, ho2⟩
        refine ⟨a2, m2, d2, ?_, hI.1.trans hb3, fun _ => ⟨hI.1.trans hb3, ?_⟩⟩
        · rw [List.getElem?_eq_getElem (by simpa using hi), List.getElem_map]; rfl
        · rw [List.take_succ_eq_append_getElem hi, List.map_append]; exact ho2)
    rw [HE] at this
    exact this
  clear HE hcf h hf
  generalize erL (l.map fun x => (knP x 1).2) = E at *
  obtain ⟨ti, ht1, ht2, ht3, ht4⟩ := info_parts Tryz.infoTI64
  have hW2 : w.heap.size + 1 = W.heap.size := by rw [← hW, World.size_alloc]
  go_enter Tryz.func102, Tryz.ntmps102
  go_upto_region 1 with fail
  go_wp2_with (first | (at_make; go_must (refine wpList_make_own W rfl _ _ 165 rfl W.heap.size 2 ti _ 1 Tryz.underlying165 ht1 ht2 ht3 .i64 .i64 (n : Int) n rfl rfl rfl (by rw [ht4]; omega) (by rw [← hn]; exact Nat.le_trans hlen (by decide)) (Nat.le_refl _) ?_)) | fail)
  intro Wc ho hg
  have hb2 : Below W.heap.size W Wc := below_grows (Below.refl _ _) (Nat.le_refl _) hg (by simp)
  have HC2 : Hid _ := hid (HC.out Wc ⟨fun cs h => by simp at h, ho⟩ hb2)
  clear HC ho hg
  go_wp2_with fail
  refine Calls.mono HC2.out ?_
  rintro e w4 ⟨a, m, d, rfl, hb4, hI, -⟩
  have HI : Hid _ := hid hI
  have hB4 : Below w.heap.size w w4 := (Below.on hw hb2).trans (hb4.mono hw.size)
  clear HC2 hI hb4
  go_wp2
  refine bodyPost_ret (v := .tuple #[.slice a m d, .int .i64 E]) (by simp [results, Tryz.results102]) rfl ⟨a, m, d, rfl, hB4, fun h0 => ?_⟩
  obtain ⟨hB, ho⟩ := HI.out h0
  rw [List.take_length] at ho
  exact OwnR.rowE (e := eInt) ho (by simp) (fun _ _ _ => trivial) fun i h1 h2 => by
    show _ = _
    simp

end Go.Proofs.YtnlaaejdianfjabGreat
namespace Go.Proofs.YtnlaaejdianfjabGreat
open Go.RowKit
set_option linter.unusedVariables false
set_option linter.unusedSimpArgs false

theorem RowIs.off {α : Type} {e : Ek α} {Q : Nat → Prop} {w : World} {ao : Option Addr} {n c : Nat} {l : List α} (h : RowIs e Q w (.slice ao n c) l) {m : Nat} (hm : m ≤ n) {ao' : Option Addr} (ha : ∀ b o, ao = some ⟨b, o, none⟩ → m < c → ao' = some ⟨b, o + m * e.k, none⟩) : RowIs e Q w (.slice ao' (n - m) (c - m)) (l.drop m) := by
  obtain ⟨_, _, _, e', h1, h2, h3, hx⟩ := h
  cases e'
  refine ⟨ao', n - m, c - m, rfl, by rw [List.length_drop]; omega, by omega, by omega, fun hp => ?_⟩
  obtain ⟨b, o, rfl, hq, hc⟩ := hx (by omega)
  refine ⟨b, o + m * e.k, ha b o rfl (by omega), hq, fun i hi => ?_⟩
  obtain ⟨cs, r1, r2, r3⟩ := hc (m + i) (by rw [List.length_drop] at hi; omega)
  refine ⟨cs, by rw [List.getElem_drop]; exact r1, r2, fun j hj => ?_⟩
  rw [← r3 j hj, Nat.add_mul]
  congr 2
  omega
theorem val1 {Q : Nat → Prop} {w : World} {a : Option Addr} {n c : Nat} {l : List Vt} (h : RowIs eVal Q w (.slice a n c) l) {k : Nat} (hk : k < l.length) : ∃ b o, a = some ⟨b, o, none⟩ ∧ Q b ∧ w.cell? ⟨b, o + k * 3, none⟩ = some (.int .i64 l[k].1) ∧ w.cell? ⟨b, o + k * 3 + 1, none⟩ = some (.int .i64 l[k].2.1) ∧ w.cell? ⟨b, o + k * 3 + 2, none⟩ = some (.string l[k].2.2) := by
  obtain ⟨_, _, _, e, h1, h2, h3, h4⟩ := h
  cases e
  obtain ⟨b, o, e, hq, hi⟩ := h4 (by omega)
  obtain ⟨cs, hE, hl, hc⟩ := hi k hk
  have hE' : cs = [.int .i64 l[k].1, .int .i64 l[k].2.1, .string l[k].2.2] := hE
  subst hE'
  exact ⟨b, o, e, hq, hc 0 (show 0 < 3 by decide), hc 1 (show 1 < 3 by decide), hc 2 (show 2 < 3 by decide)⟩
theorem row_lens {α : Type} {e : Ek α} {Q : Nat → Prop} {w : World} {a : Option Addr} {n c : Nat} {l : List α} (h : RowIs e Q w (.slice a n c) l) : l.length = n ∧ n ≤ c ∧ c ≤ 9223372036854775807 := by
  obtain ⟨_, _, _, e, h1, h2, h3, h4⟩ := h
  cases e
  exact ⟨h1, h2, h3⟩
set_option maxRecDepth 100000 in
theorem slice_i64 {b o n c : Nat} (h1 : 1 ≤ n) (h2 : n ≤ c) (w' : World) : (Instr.slice 165 (.slice (some ⟨b, o, none⟩) n c) (some (.int .i64 1)) none none).run Tryz.prog w' = .ok (.slice (if c = 1 then some ⟨b, o, none⟩ else some ⟨b, o + 1, none⟩) (n - 1) (c - 1)) w' := by
  have g2 : 1 ≤ c := by omega
  have g3 : (1 : Int) ≤ (n : Int) := by omega
  have g4 : (n : Int) ≤ (c : Int) := by omega
  have g5 : ¬ (n : Int) < 1 := by omega
  go_simp
theorem nA_eq (z : Int) : nA z = .tuple #[.int .i64 (nV z), .int .i64 (nE z)] := rfl
theorem nV_zero {z : Int} (h : nE z ≠ 0) : nV z = 0 := by
  unfold nE nV at *
  split
  · rename_i hf; rw [if_pos hf] at h; exact absurd rfl h
  · rfl

set_option maxRecDepth 100000 in
set_option maxHeartbeats 4000000 in
theorem between_any {N : Nat} {x y z : Int} (hcf : ∀ args w', (callFunc N args).run Tryz.prog w' = .ok (.enter N args) w') (hN : ∀ w', Calls Tryz.prog N #[.int .i64 x, .int .i64 y] w' fun e w'' => e = .returned (nA z) ∧ w'' = w') {Q : Nat → Prop} {w : World} {ao : Option Addr} {n c : Nat} (h : RowIs eInt Q w (.slice ao n c) [x, y]) :
    Calls Tryz.prog 111 #[.slice ao n c, .func (.func N) #[] #[]] w fun en w' => en = .returned (nA z) ∧ Below w.heap.size w w' := by
  obtain ⟨hn, hnc, hc⟩ := row_lens h
  obtain rfl : n = 2 := by simpa using hn.symm
  obtain ⟨b, o, rfl, -, c0⟩ := h.int1 (k := 0) (by simp)
  rw [Nat.add_zero] at c0
  have c0' : w.cell? ⟨b, o, none⟩ = some (.int .i64 x) := c0
  have hsl := fun w' => slice_i64 (b := b) (o := o) (n := 2) (c := c) (by omega) hnc w'
  obtain ⟨ao', hao⟩ : ∃ ao', (if c = 1 then some (⟨b, o, none⟩ : Addr) else some ⟨b, o + 1, none⟩) = ao' := ⟨_, rfl⟩
  have h2 : RowIs eInt (fun b => b < w.heap.size) w (.slice ao' 1 (c - 1)) [y] := (h.off (m := 1) (by omega) (ao' := ao') (fun b' o' e' _ => by cases e'; rw [← hao, if_neg (by omega)]; rfl)).mono (by decide) fun b _ hl => hl
  rw [hao] at hsl
  obtain ⟨d, hd⟩ : ∃ d, c - 1 = d := ⟨_, rfl⟩
  rw [hd] at hsl h2
  have HF : Hid (∀ w', Below w.heap.size w w' → Calls Tryz.prog 117 #[.slice ao' 1 d, .int .i64 x, .func (.func N) #[] #[]] w' fun en w'' => en = .returned (nA z) ∧ Below w.heap.size w w'') := hid fun w' hb => by
    have := foldVInin (l := [y]) (B := w.heap.size) (by simp) hb.size (fun b hq => hq) (h2.keep (by decide) fun b hq _ => hb.block b hq) (caps := #[]) hcf (fun _ => nE z) (fun i w'' a => Below w.heap.size w' w'' ∧ (i = 0 → a = x) ∧ (i = 1 → a = nV z)) (fun i w'' a hI => hI.1) (fun i w'' a o hI => ⟨hI.1.alloc (Nat.le_trans hb.size hI.1.size) o, hI.2⟩) (a0 := x) ⟨Below.refl _ _, fun _ => rfl, fun h => absurd h (by decide)⟩
      (fun i hi w'' a hI => by
        have hi' : i < 1 := hi
        obtain rfl : i = 0 := by omega
        obtain rfl := hI.2.1 rfl
        refine Calls.mono (hN w'') ?_
        rintro e w3 ⟨rfl, rfl⟩
        exact ⟨nV z, rfl, hI.1, fun _ => ⟨hI.1, fun h => absurd h (by decide), fun _ => rfl⟩⟩)
    refine Calls.mono this ?_
    rintro e w3 ⟨a2, rfl, hb3, h3, h4⟩
    have e1 : erO (fun _ => nE z) [y].length = nE z := by
      show erL [nE z] = nE z
      unfold erL erL
      split
      · exact Eq.symm (by assumption)
      · rfl
    rw [e1] at h3 h4 ⊢
    refine ⟨?_, hb.trans hb3⟩
    by_cases h0 : nE z = 0
    · rw [(h3 h0).2.2 rfl]; rfl
    · rw [h4 h0, nA_eq, nV_zero h0]
  clear h h2 hao hN
  obtain ⟨r1, r2, hr⟩ : ∃ r1 r2 : Int, nA z = .tuple #[.int .i64 r1, .int .i64 r2] := ⟨_, _, rfl⟩
  rw [hr] at HF ⊢
  clear hr
  have hC : Below w.heap.size w w.drew := (Below.refl _ w).drew
  have HK : Hid (∀ w', Below w.heap.size w w' → w'.cell? ⟨b, o, none⟩ = some (.int .i64 x)) := hid fun w' hb => cell_later hb c0'
  go_enter Tryz.func111, Tryz.ntmps111
  go_upto_region 1 with fail
  go_region_held3 (fun w' => w'.cell? ⟨b, o, none⟩ = some (.int .i64 x)) (exact HK.out _ hC)
    (first | (go_at_call 117; with_reducible refine Calls.mono (HF.out _ hC) ?_; rintro e z1 ⟨rfl, hb1⟩; replace hC := hb1))
  all_goals
    go_wp2
    exact bodyPost_ret (v := .tuple #[.int .i64 r1, .int .i64 r2]) (by simp [results, Tryz.results111]) rfl ⟨rfl, hC⟩

set_option maxRecDepth 100000 in
set_option maxHeartbeats 4000000 in
theorem ofNumbers_any {op : Int} {l : List Int} (hop : (op = 3 ∧ l.length = 1) ∨ (op = 5 ∧ l.length = 2) ∨ (op = 6 ∧ l.length = 2) ∨ (op = 7 ∧ l.length = 2)) (hf : ∀ x ∈ l, Fits x) {Q : Nat → Prop} {w : World} {ao : Option Addr} {n c : Nat} (h : RowIs eInt Q w (.slice ao n c) l) :
    Calls Tryz.prog 104 #[.int .i64 op, .slice ao n c] w fun en w' => en = .returned (nA (numP op l)) ∧ Below w.heap.size w w' := by
  rcases hop with ⟨rfl, hl⟩ | ⟨rfl, hl⟩ | ⟨rfl, hl⟩ | ⟨rfl, hl⟩
  · obtain ⟨x, rfl⟩ : ∃ x, l = [x] := by match l, hl with | [x], _ => exact ⟨x, rfl⟩
    rw [show numP 3 [x] = -x from rfl]
    have fx := hf x (by simp)
    have HB : Hid _ := hid (Neg_any x fx w)
    obtain ⟨hn, hnc, hc⟩ := row_lens h
    obtain rfl : n = 1 := by simpa using hn.symm
    obtain ⟨b, o, rfl, -, c0⟩ := h.int1 (k := 0) (by simp)
    rw [Nat.add_zero] at c0
    have c0' : w.cell? ⟨b, o, none⟩ = some (.int .i64 x) := c0
    clear h hf fx c0
    generalize -x = z at *
    obtain ⟨r1, r2, hr⟩ : ∃ r1 r2 : Int, nA z = .tuple #[.int .i64 r1, .int .i64 r2] := ⟨_, _, rfl⟩
    rw [hr] at HB ⊢
    clear hr hl hn
    go_enter Tryz.func104, Tryz.ntmps104
    go_wp2_with fail
    refine Calls.mono HB.out ?_
    rintro e w4 ⟨rfl, rfl⟩
    clear HB
    go_wp2
    exact bodyPost_ret (v := .tuple #[.int .i64 r1, .int .i64 r2]) (by simp [results, Tryz.results104]) rfl ⟨rfl, Below.refl _ _⟩
  · obtain ⟨x, y, rfl⟩ : ∃ x y, l = [x, y] := by match l, hl with | [x, y], _ => exact ⟨x, y, rfl⟩
    rw [show numP 5 [x, y] = x + y from rfl]
    have fx := hf x (by simp)
    have fy := hf y (by simp)
    have HB : Hid _ := hid (between_any (N := 99) (fun args w' => by rfl) (fun w' => Add_any x y fx fy w') h)
    clear h hf fx fy
    generalize x + y = z at *
    obtain ⟨r1, r2, hr⟩ : ∃ r1 r2 : Int, nA z = .tuple #[.int .i64 r1, .int .i64 r2] := ⟨_, _, rfl⟩
    rw [hr] at HB ⊢
    clear hr hl
    go_enter Tryz.func104, Tryz.ntmps104
    go_wp2_with fail
    refine Calls.mono HB.out ?_
    rintro e w4 ⟨rfl, hb4⟩
    clear HB
    go_wp2
    exact bodyPost_ret (v := .tuple #[.int .i64 r1, .int .i64 r2]) (by simp [results, Tryz.results104]) rfl ⟨rfl, hb4⟩
  · obtain ⟨x, y, rfl⟩ : ∃ x y, l = [x, y] := by match l, hl with | [x, y], _ => exact ⟨x, y, rfl⟩
    rw [show numP 6 [x, y] = x - y from rfl]
    have fx := hf x (by simp)
    have fy := hf y (by simp)
    have HB : Hid _ := hid (between_any (N := 112) (fun args w' => by rfl) (fun w' => Sub_any x y fx fy w') h)
    clear h hf fx fy
    generalize x - y = z at *
    obtain ⟨r1, r2, hr⟩ : ∃ r1 r2 : Int, nA z = .tuple #[.int .i64 r1, .int .i64 r2] := ⟨_, _, rfl⟩
    rw [hr] at HB ⊢
    clear hr hl
    go_enter Tryz.func104, Tryz.ntmps104
    go_wp2_with fail
    refine Calls.mono HB.out ?_
    rintro e w4 ⟨rfl, hb4⟩
    clear HB
    go_wp2
    exact bodyPost_ret (v := .tuple #[.int .i64 r1, .int .i64 r2]) (by simp [results, Tryz.results104]) rfl ⟨rfl, hb4⟩
  · obtain ⟨x, y, rfl⟩ : ∃ x y, l = [x, y] := by match l, hl with | [x, y], _ => exact ⟨x, y, rfl⟩
    rw [show numP 7 [x, y] = x * y from rfl]
    have fx := hf x (by simp)
    have fy := hf y (by simp)
    have HB : Hid _ := hid (between_any (N := 113) (fun args w' => by rfl) (fun w' => Mul_any x y fx fy w') h)
    clear h hf fx fy
    generalize x * y = z at *
    obtain ⟨r1, r2, hr⟩ : ∃ r1 r2 : Int, nA z = .tuple #[.int .i64 r1, .int .i64 r2] := ⟨_, _, rfl⟩
    rw [hr] at HB ⊢
    clear hr hl
    go_enter Tryz.func104, Tryz.ntmps104
    go_wp2_with fail
    refine Calls.mono HB.out ?_
    rintro e w4 ⟨rfl, hb4⟩
    clear HB
    go_wp2
    exact bodyPost_ret (v := .tuple #[.int .i64 r1, .int .i64 r2]) (by simp [results, Tryz.results104]) rfl ⟨rfl, hb4⟩

theorem er_ok {l : List Vt} (h : erL (l.map fun v => (knP v 1).2) = 0) : l.map (fun v => (knP v 1).1) = l.map fun v => v.2.1 := by
  induction l with
  | nil => rfl
  | cons v l ih =>
    rw [List.map_cons, erL] at h
    split at h
    · rename_i h0
      rw [List.map_cons, List.map_cons, ih h]
      congr 1
      unfold knP at *
      split
      · rfl
      · rename_i hk; rw [if_neg hk] at h0; cases h0
    · rename_i h0; exact absurd h h0
set_option maxRecDepth 100000 in
set_option maxHeartbeats 4000000 in
theorem reckoned_any {op : Int} {l : List Vt} (hop : (op = 3 ∧ l.length = 1) ∨ (op = 5 ∧ l.length = 2) ∨ (op = 6 ∧ l.length = 2) ∨ (op = 7 ∧ l.length = 2)) (hf : ∀ x ∈ l, Fits x.2.1) {Q : Nat → Prop} {w : World} {ao : Option Addr} {n c : Nat} (h : RowIs eVal Q w (.slice ao n c) l) :
    Calls Tryz.prog 97 #[.int .i64 op, .slice ao n c] w fun en w' => en = .returned (.tuple #[vV (recP op l).1, .int .i64 (recP op l).2]) ∧ Below w.heap.size w w' := by
  have hw := bal (Below.refl w.heap.size w) zV
  have hz := Bv.new w
  have HE : Hid _ := hid (eachV_any (by omega) (by omega) (h.keep (by decide) fun b _ hl => hw.block b hl))
  have HN : Hid (erL (l.map fun v => (knP v 1).2) = 0 → ∀ {w' : World} {ao : Option Addr} {n c : Nat}, RowIs eInt (fun _ => True) w' (.slice ao n c) (l.map fun v => (knP v 1).1) → Calls Tryz.prog 104 #[.int .i64 op, .slice ao n c] w' fun en w'' => en = .returned (nA (numP op (l.map fun v => v.2.1))) ∧ Below w'.heap.size w' w'') := hid fun h0 w' ao n c hr => by
    rw [er_ok h0] at hr
    exact ofNumbers_any (by simpa using hop) (fun x hx => by obtain ⟨v, hv, rfl⟩ := List.mem_map.1 hx; exact hf v hv) hr
  obtain ⟨R, hR⟩ : ∃ R, recP op l = R := ⟨_, rfl⟩
  have H0 : Hid (erL (l.map fun v => (knP v 1).2) = 0 → R = ((1, nV (numP op (l.map fun v => v.2.1)), ⟨#[]⟩), nE (numP op (l.map fun v => v.2.1)))) := hid fun h0 => by rw [← hR, recP, if_neg (by simpa using h0)]
  have H1 : Hid (erL (l.map fun v => (knP v 1).2) ≠ 0 → R = (vZ, erL (l.map fun v => (knP v 1).2))) := hid fun h0 => by rw [← hR, recP, if_pos h0]
  rw [hR]
  clear h hf hop hR
  generalize l.map (fun v => (knP v 1).1) = L at *
  generalize erL (l.map fun v => (knP v 1).2) = E at *
  generalize numP op (l.map fun v => v.2.1) = z at *
  rw [nA_eq] at HN
  generalize nV z = z1 at *
  generalize nE z = z2 at *
  go_enter Tryz.func97, Tryz.ntmps97
  go_wp2_with fail
  refine Calls.mono HE.out ?_
  rintro e w4 ⟨a, m, d, rfl, hb4, hI⟩
  have HI : Hid _ := hid hI
  have hz4 := hz.later hb4
  have hB4 := Below.on hw hb4
  clear HE hI hz hb4 hw
  by_cases h0 : E = 0
  · subst h0
    obtain rfl := H0.out (by first | rfl | trivial)
    have HN2 : Hid _ := hid (HN.out (by first | rfl | trivial) (HI.out (by first | rfl | trivial)))
    clear HN HI H0 H1
    go_wp2_with fail
    refine Calls.mono HN2.out ?_
    rintro e w5 ⟨rfl, hb5⟩
    have hB5 := Below.on hB4 hb5
    have hz5 := hz4.later hb5
    obtain ⟨c0, c1, c2⟩ := hz5.cells
    obtain ⟨f0, f1, f2⟩ := hz5.free
    have hl := hz5.lt
    clear HN2 hz4 hz5 hb5 hB4
    go_wp2
    exact bodyPost_ret (v := .tuple #[vV (1, z1, ⟨#[]⟩), .int .i64 z2]) (by simp [results, Tryz.results97, go_sem, c0, c1, c2]) rfl ⟨rfl, below3 hB5 (Nat.le_refl _) _ _ _⟩
  · obtain rfl := H1.out h0
    have h0' : (E != 0) = true := by simpa using h0
    have h0d : decide (E = 0) = false := by simpa using h0
    obtain ⟨c0, c1, c2⟩ := hz4.cells
    obtain ⟨f0, f1, f2⟩ := hz4.free
    have hl := hz4.lt
    clear HN HI hz4 H0 H1
    go_wp2
    exact bodyPost_ret (v := .tuple #[vV vZ, .int .i64 E]) (by simp [results, Tryz.results97, go_sem, c0, c1, c2]) rfl ⟨rfl, below3 hB4 (Nat.le_refl _) _ _ _⟩

end Go.Proofs.YtnlaaejdianfjabGreat
namespace Go.Proofs.YtnlaaejdianfjabGreat
open Go.RowKit
set_option linter.unusedVariables false
set_option linter.unusedSimpArgs false

/-- How many values a way has. -/
def MadeOK (op : Int) (l : List Vt) : Prop := ((op = 3 ∨ op = 4) ∧ l.length = 1) ∨ ((5 ≤ op ∧ op ≤ 13) ∧ l.length = 2)
theorem numOp_is {op : Int} : isNumOp op = true ↔ op = 3 ∨ op = 5 ∨ op = 6 ∨ op = 7 := by simp [isNumOp]
set_option maxRecDepth 100000 in
set_option maxHeartbeats 4000000 in
theorem made_any {op : Int} {l : List Vt} (hop : MadeOK op l) (hf : ∀ x ∈ l, Fits x.2.1) {Q : Nat → Prop} {w : World} {ao : Option Addr} {n c : Nat} (h : RowIs eVal Q w (.slice ao n c) l) :
    Calls Tryz.prog 83 #[.int .i64 op, .slice ao n c] w fun en w' => en = .returned (.tuple #[vV (madeP op l).1, .int .i64 (madeP op l).2]) ∧ Below w.heap.size w w' := by
  have hw := bal (Below.refl w.heap.size w) zV
  have hz := Bv.new w
  have h' := (h.mono (Q' := fun b => b < w.heap.size) (by decide) fun b _ hl => hl).keep (w' := w.alloc zV) (by decide) fun b _ hl => hw.block b hl
  by_cases hnum : isNumOp op = true
  · rw [show madeP op l = recP op l from if_pos hnum]
    have hn := numOp_is.1 hnum
    have HR : Hid _ := hid (reckoned_any (op := op) (by unfold MadeOK at hop; omega) hf h')
    generalize recP op l = R at *
    clear h h' hf hop hnum
    rcases hn with rfl | rfl | rfl | rfl
    all_goals
      go_enter Tryz.func83, Tryz.ntmps83
      go_wp2_with fail
      refine Calls.mono HR.out ?_
      rintro e w4 ⟨rfl, hb4⟩
      have hB4 := Below.on hw hb4
      have hz4 := hz.later hb4
      obtain ⟨c0, c1, c2⟩ := hz4.cells
      obtain ⟨f0, f1, f2⟩ := hz4.free
      have hl := hz4.lt
      clear HR hz hz4 hb4 hw
      go_wp2
      exact bodyPost_ret (v := .tuple #[vV R.1, .int .i64 R.2]) (by simp [results, Tryz.results83, go_sem, c0, c1, c2]) rfl ⟨rfl, below3 hB4 (Nat.le_refl _) _ _ _⟩
  · have hn : ¬ (op = 3 ∨ op = 5 ∨ op = 6 ∨ op = 7) := fun k => hnum (numOp_is.2 k)
    have h3 : ¬ op = 3 := by omega
    have g3 : decide (op = 3) = false := by simp; omega
    have h5 : ¬ op = 5 := by omega
    have g5 : decide (op = 5) = false := by simp; omega
    have h6 : ¬ op = 6 := by omega
    have g6 : decide (op = 6) = false := by simp; omega
    have h7 : ¬ op = 7 := by omega
    have g7 : decide (op = 7) = false := by simp; omega
    by_cases h4 : op = 4
    · subst h4
      obtain ⟨v, rfl⟩ : ∃ v, l = [v] := by
        have hl : l.length = 1 := by unfold MadeOK at hop; omega
        match l, hl with
        | [v], _ => exact ⟨v, rfl⟩
      rw [show madeP 4 [v] = (trV (!decide ((knP v 3).1 = 1)), (knP v 3).2) from rfl]
      obtain ⟨b, o, rfl, hbz, x0, x1, x2⟩ := val1 h' (k := 0) (by simp)
      obtain ⟨hn1, hnc, hcm⟩ := row_lens h'
      obtain rfl : n = 1 := by simpa using hn1.symm
      simp only [List.getElem_cons_zero, Nat.zero_mul, Nat.add_zero] at x0 x1 x2
      have HI : Hid _ := hid (intOfV_any v 3)
      generalize knP v 3 = K at *
      have HT : Hid _ := hid (truthE_any (!decide (K.1 = 1)))
      have hD : (K.1 != 1) = !decide (K.1 = 1) := by rw [Bool.eq_iff_iff]; simp
      generalize (!decide (K.1 = 1)) = D at *
      obtain ⟨v0, v1, v2⟩ := v
      clear h h' hf hop hnum hn hn1
      go_enter Tryz.func83, Tryz.ntmps83
      go_wp2_with fail
      refine Calls.mono (HI.out _) ?_
      rintro e w4 ⟨rfl, hb4⟩
      go_wp2_with fail
      refine Calls.mono (HT.out _) ?_
      rintro e w5 ⟨rfl, hb5⟩
      have hB5 := Below.on (Below.on hw hb4) hb5
      have hz5 := (hz.later hb4).later hb5
      obtain ⟨c0, c1, c2⟩ := hz5.cells
      obtain ⟨f0, f1, f2⟩ := hz5.free
      have hl := hz5.lt
      clear HI HT hz hz5 hb4 hb5 hw hD
      go_wp2
      exact bodyPost_ret (v := .tuple #[vV (trV D), .int .i64 K.2]) (by simp [results, Tryz.results83, go_sem, c0, c1, c2]) rfl ⟨rfl, below3 hB5 (Nat.le_refl _) _ _ _⟩
    · have g4 : decide (op = 4) = false := by simpa using h4
      obtain ⟨u, v, rfl⟩ : ∃ u v, l = [u, v] := by
        have hl : l.length = 2 := by unfold MadeOK at hop; omega
        match l, hl with
        | [u, v], _ => exact ⟨u, v, rfl⟩
      rw [show madeP op [u, v] = cmpdP op u v from by unfold madeP; rw [if_neg hnum, if_neg h4]; rfl]
      obtain ⟨b, o, rfl, hbz, x0, x1, x2⟩ := val1 h' (k := 0) (by simp)
      obtain ⟨b', o', e', -, y0, y1, y2⟩ := val1 h' (k := 1) (by simp)
      cases e'
      obtain ⟨hn1, hnc, hcm⟩ := row_lens h'
      obtain rfl : n = 2 := by simpa using hn1.symm
      simp only [List.getElem_cons_zero, List.getElem_cons_succ, Nat.zero_mul, Nat.one_mul, Nat.add_zero] at x0 x1 x2 y0 y1 y2
      have HC : Hid _ := hid (compared_any op u v)
      generalize cmpdP op u v = R at *
      obtain ⟨u0, u1, u2⟩ := u
      obtain ⟨v0, v1, v2⟩ := v
      clear h h' hf hop hnum hn hn1
      generalize hW : w.alloc zV = W at *
      have hY : Below W.heap.size W W.drew := (Below.refl _ W).drew
      have bx : Bk W.drew w.heap.size zV := ⟨hz.row⟩
      clear hz
      go_enter Tryz.func83, Tryz.ntmps83
      go_upto_region 10 with fail
      (try rw [hW])
      clear hW
      generalize hz : w.heap.size = z at bx hbz ⊢
      refine wp_region_held_drew (S := fun w' => w'.cell? ⟨b, o, none⟩ = some (.int .i64 u0) ∧ w'.cell? ⟨b, o + 1, none⟩ = some (.int .i64 u1) ∧ w'.cell? ⟨b, o + 2, none⟩ = some (.string u2) ∧ w'.cell? ⟨b, o + 3, none⟩ = some (.int .i64 v0) ∧ w'.cell? ⟨b, o + 3 + 1, none⟩ = some (.int .i64 v1) ∧ w'.cell? ⟨b, o + 3 + 2, none⟩ = some (.string v2)) (by kernel_rfl) (⟨cell_later hY x0, cell_later hY x1, cell_later hY x2, cell_later hY y0, cell_later hY y1, cell_later hY y2⟩) (fun hHeld => ?_)
      refine wpAnyH_take (i := 0) (v := ?tv1) rfl (by kernel_rfl) (by kernel_rfl) (by kernel_rfl) (fun _ _ _ h => h) (Or.inl ⟨by rfl, ?hy1⟩) (by assumption) ?rs1
      case hy1 => (intro w9 hSw; (try dsimp only at hSw); go_simp; (try with_reducible rfl))
      (try simp only [Act.put, List.getElem_toArray, List.getElem_cons_zero, List.getElem_cons_succ, List.setIfInBounds_toArray, List.set_cons_zero, List.set_cons_succ])
      refine wpAnyH_take (i := 1) (v := ?tv2) rfl (by kernel_rfl) (by kernel_rfl) (by kernel_rfl) (fun _ _ _ h => h) (Or.inl ⟨by rfl, ?hy2⟩) (by assumption) ?rs2
      case hy2 => (intro w9 hSw; (try dsimp only at hSw); go_simp; (try with_reducible rfl))
      (try simp only [Act.put, List.getElem_toArray, List.getElem_cons_zero, List.getElem_cons_succ, List.setIfInBounds_toArray, List.set_cons_zero, List.set_cons_succ])
      refine wpAnyH_take (i := 2) (v := ?tv3) rfl (by kernel_rfl) (by kernel_rfl) (by kernel_rfl) (fun _ _ _ h => h) (Or.inl ⟨by rfl, ?hy3⟩) (by assumption) ?rs3
      case hy3 => (intro w9 hSw; (try dsimp only at hSw); go_simp; (try with_reducible rfl))
      (try simp only [Act.put, List.getElem_toArray, List.getElem_cons_zero, List.getElem_cons_succ, List.setIfInBounds_toArray, List.set_cons_zero, List.set_cons_succ])
      refine wpAnyH_take (i := 3) (v := ?tv4) rfl (by kernel_rfl) (by kernel_rfl) (by kernel_rfl) (fun _ _ _ h => h) (Or.inl ⟨by rfl, ?hy4⟩) (by assumption) ?rs4
      case hy4 => (intro w9 hSw; (try dsimp only at hSw); go_simp; (try with_reducible rfl))
      (try simp only [Act.put, List.getElem_toArray, List.getElem_cons_zero, List.getElem_cons_succ, List.setIfInBounds_toArray, List.set_cons_zero, List.set_cons_succ])
      refine wpAnyH_take (i := 4) (v := ?tv5) rfl (by kernel_rfl) (by kernel_rfl) (by kernel_rfl) (fun _ _ _ h => h) (Or.inl ⟨by rfl, ?hy5⟩) (by assumption) ?rs5
      case hy5 => (intro w9 hSw; (try dsimp only at hSw); go_simp; (try with_reducible rfl))
      (try simp only [Act.put, List.getElem_toArray, List.getElem_cons_zero, List.getElem_cons_succ, List.setIfInBounds_toArray, List.set_cons_zero, List.set_cons_succ])
      refine wpAnyH_take (i := 5) (v := ?tv6) rfl (by kernel_rfl) (by kernel_rfl) (by kernel_rfl) (fun _ _ _ h => h) (Or.inl ⟨by rfl, ?hy6⟩) (by assumption) ?rs6
      case hy6 => (intro w9 hSw; (try dsimp only at hSw); go_simp; (try with_reducible rfl))
      (try simp only [Act.put, List.getElem_toArray, List.getElem_cons_zero, List.getElem_cons_succ, List.setIfInBounds_toArray, List.set_cons_zero, List.set_cons_succ])
      refine wpAnyH_take (i := 6) (v := ?tv7) rfl (by kernel_rfl) (by kernel_rfl) (by kernel_rfl) (fun _ _ _ h => h) (Or.inl ⟨by rfl, ?hy7⟩) (by assumption) ?rs7
      case hy7 => (intro w9 hSw; (try dsimp only at hSw); go_simp; (try with_reducible rfl))
      (try simp only [Act.put, List.getElem_toArray, List.getElem_cons_zero, List.getElem_cons_succ, List.setIfInBounds_toArray, List.set_cons_zero, List.set_cons_succ])
      refine wpAnyH_ready (rs := [7]) (by kernel_rfl) (by simp) ?_
      refine AllReadyH.cons rfl (fun K hK => ?_) AllReadyH.nil
      go_simp
      go_wp2_with (first | (go_at_call 98; (refine Calls.mono (HC.out _) ?_); rintro e y ⟨rfl, hby⟩; replace bx := bx.later hby; replace hY := Below.on hY hby))
      refine hK.out _ _ (⟨cell_later hY x0, cell_later hY x1, cell_later hY x2, cell_later hY y0, cell_later hY y1, cell_later hY y2⟩) (fun hHeld => ?_)
      clear hK K
      (try simp only [Act.put, List.getElem_toArray, List.getElem_cons_zero, List.getElem_cons_succ, List.setIfInBounds_toArray, List.set_cons_zero, List.set_cons_succ])
      refine wpAnyH_take (i := 8) (v := ?tv8) rfl (by kernel_rfl) (by kernel_rfl) (by kernel_rfl) (fun _ _ _ h => h) (Or.inl ⟨by rfl, ?hy8⟩) (by assumption) ?rs8
      case hy8 => (intro w9 hSw; (try dsimp only at hSw); go_simp; (try with_reducible rfl))
      (try simp only [Act.put, List.getElem_toArray, List.getElem_cons_zero, List.getElem_cons_succ, List.setIfInBounds_toArray, List.set_cons_zero, List.set_cons_succ])
      refine wpAnyH_take (i := 9) (v := ?tv9) rfl (by kernel_rfl) (by kernel_rfl) (by kernel_rfl) (fun _ _ _ h => h) (Or.inl ⟨by rfl, ?hy9⟩) (by assumption) ?rs9
      case hy9 => (intro w9 hSw; (try dsimp only at hSw); go_simp; (try with_reducible rfl))
      (try simp only [Act.put, List.getElem_toArray, List.getElem_cons_zero, List.getElem_cons_succ, List.setIfInBounds_toArray, List.set_cons_zero, List.set_cons_succ])
      refine wpAnyH_ready (rs := [10]) (by kernel_rfl) (by simp) ?_
      refine AllReadyH.cons rfl (fun K hK => ?_) AllReadyH.nil
      have hth : y.there z 0 3 := bx.there rfl
      have z0 := stW_cell (l := [.int .i64 R.1.1, .int .i64 R.1.2.1, .string R.1.2.2]) hth (j := 0) rfl
      have z1 := stW_cell (l := [.int .i64 R.1.1, .int .i64 R.1.2.1, .string R.1.2.2]) hth (j := 1) rfl
      have z2 := stW_cell (l := [.int .i64 R.1.1, .int .i64 R.1.2.1, .string R.1.2.2]) hth (j := 2) rfl
      rw [if_pos (by rfl)]
      refine wp_store_mid _ _ _ rfl z 0 (List.toArray [.int .i64 R.1.1, .int .i64 R.1.2.1, .string R.1.2.2]) rfl rfl hth (by kernel_rfl) (by simp [Value.oneCell']) ?_
      show K _ (stW y z [.int .i64 R.1.1, .int .i64 R.1.2.1, .string R.1.2.2])
      refine hK.out _ _ (⟨stW_far (by omega) (cell_later hY x0), stW_far (by omega) (cell_later hY x1), stW_far (by omega) (cell_later hY x2), stW_far (by omega) (cell_later hY y0), stW_far (by omega) (cell_later hY y1), stW_far (by omega) (cell_later hY y2)⟩) (fun hHeld => ?_)
      clear hK K hth
      (try simp only [Act.put, List.getElem_toArray, List.getElem_cons_zero, List.getElem_cons_succ, List.setIfInBounds_toArray, List.set_cons_zero, List.set_cons_succ])
      refine wpAnyH_ready (rs := [11]) (by kernel_rfl) (by simp) ?_
      refine AllReadyH.cons rfl (fun K hK => ?_) AllReadyH.nil
      go_simp
      refine hK.out _ _ (⟨stW_far (by omega) (cell_later hY x0), stW_far (by omega) (cell_later hY x1), stW_far (by omega) (cell_later hY x2), stW_far (by omega) (cell_later hY y0), stW_far (by omega) (cell_later hY y1), stW_far (by omega) (cell_later hY y2)⟩) (fun hHeld => ?_)
      clear hK K
      (try simp only [Act.put, List.getElem_toArray, List.getElem_cons_zero, List.getElem_cons_succ, List.setIfInBounds_toArray, List.set_cons_zero, List.set_cons_succ])
      refine wpAnyH_done (by kernel_rfl) ?_ _
      · have hW := Below.trans hw (hY.mono (by have := hw.size; omega))
        clear hY bx
        go_wp2
        refine bodyPost_ret (v := .tuple #[vV R.1, .int .i64 R.2]) (by simp [results, Tryz.results83, go_sem, z0, z1, z2]) rfl ⟨rfl, stW_below hW (by omega)⟩

end Go.Proofs.YtnlaaejdianfjabGreat
