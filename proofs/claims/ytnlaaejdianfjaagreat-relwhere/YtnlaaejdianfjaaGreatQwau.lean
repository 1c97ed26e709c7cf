import Derived.Test.YtnlaaejdianfjaaGreatQwat
import Derived.Test.YtnlaaejdianfjaaGreatQwap
import Derived.Test.YtnlaaejdianfjaaGreatQwas
import Derived.Test.YtnlaaejdianfjaaGreatQwaj
import Derived.Test.YtnlaaejdianfjaaGreatQwaq
import Derived.Test.YtnlaaejdianfjaaGreatQwao
namespace Go.Proofs.YtnlaaejdianfjaaGreat
open Go.RowKit
set_option linter.unusedVariables false
set_option linter.unusedSimpArgs false

theorem Tryz.infoTItR : (Tryz.prog.info? 50).map (fun i => (i.zero, i.size, i.bytes)) = some (some (.agg #[.int .i64 0, .string ⟨#[]⟩, .string ⟨#[]⟩]), 3, 40) := by kernel_rfl
/-- All columns of these tables, each with its table's name. -/
def scT (t : Tbl) : List It := t.cols.map fun c => (0, t.name, c.1)
def scP (ts : List Tbl) : List It := ts.flatMap scT
theorem tbl1 {Q : Nat → Prop} {w : World} {a : Option Addr} {n c : Nat} {l : List Tbl} (h : RowIs eTbl Q w (.slice a n c) l) {k : Nat} (hk : k < l.length) : ∃ b o ca cn cc xa xn xc, a = some ⟨b, o, none⟩ ∧ w.cell? ⟨b, o + k * 3, none⟩ = some (.string l[k].name) ∧ w.cell? ⟨b, o + k * 3 + 1, none⟩ = some (.slice ca cn cc) ∧ w.cell? ⟨b, o + k * 3 + 2, none⟩ = some (.slice xa xn xc) ∧ RowIs eCol Q w (.slice ca cn cc) l[k].cols := by
  obtain ⟨_, _, _, e, hn, hnc, hc, hx⟩ := h
  cases e
  obtain ⟨b, o, rfl, hq, hi⟩ := hx (by omega)
  obtain ⟨cs, h1, h2, h3⟩ := hi k hk
  obtain ⟨ca, cn, cc, xa, xn, xc, rfl, h4, h5⟩ := h1
  exact ⟨b, o, ca, cn, cc, xa, xn, xc, rfl, h3 0 (by simp), h3 1 (by simp), h3 2 (by simp), h4⟩
theorem col1 {Q : Nat → Prop} {w : World} {a : Option Addr} {n c : Nat} {l : List Co} (h : RowIs eCol Q w (.slice a n c) l) {k : Nat} (hk : k < l.length) : ∃ b o, a = some ⟨b, o, none⟩ ∧ w.cell? ⟨b, o + k * 3, none⟩ = some (.string l[k].1) ∧ w.cell? ⟨b, o + k * 3 + 1, none⟩ = some (.int .i64 l[k].2.1) ∧ w.cell? ⟨b, o + k * 3 + 2, none⟩ = some (.string l[k].2.2) := by
  obtain ⟨_, _, _, e, hn, hnc, hc, hx⟩ := h
  cases e
  obtain ⟨b, o, rfl, hq, hi⟩ := hx (by omega)
  obtain ⟨cs, h1, h2, h3⟩ := hi k hk
  have h1' : cs = [.string l[k].1, .int .i64 l[k].2.1, .string l[k].2.2] := h1
  generalize l[k] = x at *
  subst h1'
  exact ⟨b, o, rfl, h3 0 (by simp), h3 1 (by simp), h3 2 (by simp)⟩
set_option maxRecDepth 100000 in
set_option maxHeartbeats 4000000 in
theorem relCols_any {ts : List Tbl} (h2 : ts.length ≤ 2) (hc : ∀ t ∈ ts, t.cols.length ≤ 200) {Q : Nat → Prop} {w : World} {a : Option Addr} {n c : Nat} (h : RowIs eTbl Q w (.slice a n c) ts) :
    Calls Tryz.prog 57 #[.slice a n c] w fun e w' => ∃ v, e = .returned v ∧ OwnR 50 3 w.heap.size w' v ((scP ts).map itC) ∧ Below w.heap.size w w' := by
  obtain ⟨l1, l2, l3⟩ := row_lens h
  have HR : Hid (∀ w', Below w.heap.size w w' → RowIs eTbl (fun b => b < w.heap.size) w' (.slice a n c) ts) := hid fun w' hb => (h.mono (by decide) fun b _ hl => hl).keep (by decide) fun b hq _ => hb.block b hq
  have HC : Hid _ := hid hc
  have hn2 : n ≤ 2 := by omega
  clear h hc
  go_enter Tryz.func57, Tryz.ntmps57
  go_wp2
  go_loopw [3, 10] (fun v3 v10 wr => ∃ (k : Nat) (va : Option Addr) (vm vd : Nat), k ≤ n ∧ v10 = .int .i64 k ∧ v3 = .slice va vm vd ∧ Below w.heap.size w wr ∧ Hid (OwnR 50 3 w.heap.size wr (.slice va vm vd) ((scP (ts.take k)).map itC) ∧ (scP (ts.take k)).length ≤ k * 200)) (fun _ i _ => n - (intOf i).toNat)
  case atStart => exact ⟨0, none, 0, 0, Nat.zero_le _, rfl, rfl, Below.refl _ _, hid ⟨OwnR.nil _ _ _ _, Nat.zero_le _⟩⟩
  case round =>
    obtain ⟨k, va, vm, vd, hk, rfl, rfl, hB, HK⟩ := hrel
    generalize wr = wo at *
    by_cases hlt : k < n
    · obtain ⟨b, o, ca, cn, cc, xa, xn, xc, rfl, t0, t1, t2, rc⟩ := tbl1 (HR.out wo hB) (k := k) (by omega)
      obtain ⟨t, ht⟩ : ∃ t, ts[k]'(by omega) = t := ⟨_, rfl⟩
      have htc := HC.out t (ht ▸ List.getElem_mem _)
      have HTk : Hid (ts.take (k + 1) = ts.take k ++ [t]) := hid (by rw [List.take_succ_eq_append_getElem (by omega), ht])
      rw [ht] at t0 rc
      obtain ⟨p1, p2, p3⟩ := row_lens rc
      have hkm : (k : Int) < (n : Int) := by omega
      have hwk := wrapS hlt l2 l3
      have hB1 := bal hB (.cells #[.string t.name, .slice ca cn cc, .slice xa xn xc] 33)
      have bt := Bk.new wo (.cells #[.string t.name, .slice ca cn cc, .slice xa xn xc] 33)
      have hno : ∀ b, (Value.slice va vm vd).ownBlock = some b → b ≠ wo.heap.size := fun b e => by have := (HK.out.1.blk b e).2; omega
      have HK1 : Hid (OwnR 50 3 w.heap.size (wo.alloc (.cells #[.string t.name, .slice ca cn cc, .slice xa xn xc] 33)) (.slice va vm vd) ((scP (ts.take k) ++ (scT t).take 0).map itC) ∧ (scP (ts.take k)).length ≤ k * 200) := hid ⟨by rw [List.take_zero, List.append_nil]; exact HK.out.1.alloc _, HK.out.2⟩
      have HRC : Hid (∀ w', Below w.heap.size w w' → RowIs eCol (fun b => b < w.heap.size) w' (.slice ca cn cc) t.cols) := hid fun w' hb => rc.keep (by decide) fun b hq _ => (hb.block b hq).trans (hB.block b hq).symm
      have hcn : cn ≤ 200 := by omega
      have HNo : Hid _ := hid hno
      clear rc HK ht hno
      go_upto_region 5 with fail
      generalize wo.alloc (.cells #[.string t.name, .slice ca cn cc, .slice xa xn xc] 33) = W at *
      obtain ⟨qt, hqt⟩ : ∃ q, wo.heap.size = q := ⟨_, rfl⟩
      rw [hqt] at bt HNo
      (try rw [hqt])
      have d0 := bt.cell 0
      have d1 := bt.cell 1
      simp only [List.getElem?_toArray, List.getElem?_cons_zero, List.getElem?_cons_succ] at d0 d1
      have hqw : w.heap.size ≤ qt := by rw [← hqt]; exact hB.size
      clear t0 t1 t2 hqt hB
      go_wp2
      go_loopw [3, 17] (fun v3 v17 wr => ∃ (j : Nat) (va : Option Addr) (vm vd : Nat), j ≤ cn ∧ v17 = .int .i64 j ∧ v3 = .slice va vm vd ∧ Below w.heap.size w wr ∧ Bk wr qt (.cells #[.string t.name, .slice ca cn cc, .slice xa xn xc] 33) ∧ Hid (OwnR 50 3 w.heap.size wr (.slice va vm vd) ((scP (ts.take k) ++ (scT t).take j).map itC) ∧ ∀ b, (Value.slice va vm vd).ownBlock = some b → b ≠ qt)) (fun _ i _ => cn - (intOf i).toNat)
      case atStart => exact ⟨0, va, vm, vd, Nat.zero_le _, rfl, rfl, hB1, bt, hid ⟨HK1.out.1, HNo.out⟩⟩
      case round =>
        obtain ⟨j, ua, um, ud, hj, rfl, rfl, hZ, bz, HJ⟩ := hrel
        clear hB1 bt HNo d0 d1
        by_cases hjc : j < cn
        · obtain ⟨cb, co, rfl, y0, y1, y2⟩ := col1 (HRC.out wr hZ) (k := j) (by omega)
          obtain ⟨y, hy⟩ : ∃ y, t.cols[j]'(by omega) = y := ⟨_, rfl⟩
          have HTj : Hid ((scP (ts.take k) ++ (scT t).take (j + 1)).map itC = (scP (ts.take k) ++ (scT t).take j).map itC ++ [[.int .i64 0, .string t.name, .string y.1]]) := hid (by
            have hl : j < (scT t).length := by rw [scT, List.length_map]; omega
            rw [List.take_succ_eq_append_getElem hl, ← List.append_assoc, List.map_append]
            congr 1
            simp [scT, hy, itC])
          rw [hy] at y0 y1 y2
          obtain ⟨y0n, y1n, y2n⟩ := y
          obtain ⟨C, hC⟩ : ∃ C, (scP (ts.take k) ++ (scT t).take j).map itC = C := ⟨_, rfl⟩
          have hCl : C.length ≤ 1000 := by
            rw [← hC, List.length_map, List.length_append, List.length_take]
            have := HK1.out.2
            omega
          rw [hC] at HTj HJ
          have hjm : (j : Int) < (cn : Int) := by omega
          have hwj := wrapS hjc p2 p3
          have by1 := Bk.new wr (.cells #[.string y0n, .int .i64 y1n, .string y2n] 70)
          have hal := bal (Below.refl _ wr) (.cells #[.string y0n, .int .i64 y1n, .string y2n] 70)
          have bz1 := bz.later hal
          have hZ1 := bal hZ (.cells #[.string y0n, .int .i64 y1n, .string y2n] 70)
          have HO1 : Hid _ := hid (HJ.out.1.alloc (.cells #[.string y0n, .int .i64 y1n, .string y2n] 70))
          clear hC hy bz hal
          go_upto_region 8 with fail
          generalize wr.alloc (.cells #[.string y0n, .int .i64 y1n, .string y2n] 70) = U at *
          have e0 := by1.cell 0
          have d0 := bz1.cell 0
          simp only [List.getElem?_toArray, List.getElem?_cons_zero, List.getElem?_cons_succ] at e0 d0
          have ho5 := HO1.out.alloc (.cells #[.int .i64 0, .string t.name, .string y0n] 50)
          have hZ5 := bal hZ1 (.cells #[.int .i64 0, .string t.name, .string y0n] 50)
          have bz5 := bz1.later (bal (Below.refl _ U) (.cells #[.int .i64 0, .string t.name, .string y0n] 50))
          have hB5 : w.heap.size ≤ (U.alloc (.cells #[.int .i64 0, .string t.name, .string y0n] 50)).heap.size := hZ5.size
          have hqU : qt < U.heap.size := bz1.lt
          have hblk := ho5.blk
          clear by1 y0 y1 y2 bz1 HO1 hZ1
          go_wp2_with (first | (at_builtin; go_must (refine wpList_appR Tryz.underlying80 Tryz.infoTItR rfl (by decide) (by decide) rfl (.tmp 21) (.tmp 27) rfl _ C U.heap.size [.int .i64 0, .string t.name, .string y0n] rfl rfl ho5 rfl (by simp [Value.oneCell']) (new3 U _ _ _ _) hCl hB5 ?_)) | fail)
          intro v' w6 hO6 hg6 hown
          obtain ⟨a6, m6, d6, rfl⟩ := hO6.sl
          have hZ6 := below_grows hZ5 hB5 hg6 fun b e => (hblk b e).1
          have bz6 := bz5.grown hg6 (fun e => HJ.out.2 qt e.symm rfl)
          have HO6 : Hid (OwnR 50 3 w.heap.size w6 (.slice a6 m6 d6) ((scP (ts.take k) ++ (scT t).take (j + 1)).map itC) ∧ ∀ b, (Value.slice a6 m6 d6).ownBlock = some b → b ≠ qt) := hid ⟨by rw [HTj.out]; exact hO6, fun b e => by
            rcases hown with h | h
            · exact HJ.out.2 b (h.symm.trans e)
            · rw [h] at e
              have e' := Option.some.inj e
              omega⟩
          clear hO6 hg6 hown ho5 hblk bz5 hZ5 HTj HJ
          go_wp2
          go_roundw
          case rel => exact ⟨j + 1, a6, m6, d6, by omega, by go_num, rfl, hZ6, bz6, HO6⟩
          case measure => simp only [intOf]; omega
        · obtain rfl : j = cn := by omega
          have HO6 : Hid (OwnR 50 3 w.heap.size wr (.slice ua um ud) ((scP (ts.take (k + 1))).map itC) ∧ (scP (ts.take (k + 1))).length ≤ (k + 1) * 200) := hid (by
            have e : scP (ts.take (k + 1)) = scP (ts.take k) ++ (scT t).take j := by
              have hl : (scT t).take j = scT t := List.take_of_length_le (by unfold scT; rw [List.length_map]; omega)
              rw [HTk.out, scP, List.flatMap_append, hl]
              simp [scP]
            rw [e]
            refine ⟨HJ.out.1, ?_⟩
            rw [List.length_append, List.length_take]
            have := HK1.out.2
            omega)
          clear HJ HK1
          go_wp2
          go_roundw
          case rel => exact ⟨k + 1, ua, um, ud, by omega, by go_num, rfl, hZ, HO6⟩
          case measure => simp only [intOf]; omega
    · obtain rfl : k = n := by omega
      have HO6 : Hid (OwnR 50 3 w.heap.size wo (.slice va vm vd) ((scP ts).map itC)) := hid (by
        have := HK.out.1
        rwa [List.take_of_length_le (by omega)] at this)
      clear HK
      go_wp2
      go_ret
      exact ⟨_, rfl, HO6.out, hB⟩

end Go.Proofs.YtnlaaejdianfjaaGreat
namespace Go.Proofs.YtnlaaejdianfjaaGreat
open Go.RowKit
set_option linter.unusedVariables false
set_option linter.unusedSimpArgs false

/-- What Holds tells of a condition, or of none. -/
def hoL (C : List It) (V : List Vt) (l : List (Pg × Tg)) : Bool × Int := match l with
  | [] => (true, 0)
  | x :: _ => hoE C V x
set_option maxRecDepth 100000 in
set_option maxHeartbeats 4000000 in
theorem holds0_any {a a2 ao : Option Addr} {n c c2 d : Nat} (h1 : n ≤ c) (h2 : n ≤ c2) (h3 : c ≤ 9223372036854775807) (h4 : c2 ≤ 9223372036854775807) (h5 : d ≤ 9223372036854775807) (w : World) :
    Calls Tryz.prog 63 #[.slice a n c, .slice a2 n c2, .slice ao 0 d] w fun en w' => en = .returned (.tuple #[.bool true, .int .i64 0]) ∧ Below w.heap.size w w' := by
  have HPr : Hid (∀ w, _) := hid fun w => pairedV_any (a := a) (n := n) (c := c) (a2 := a2) (c2 := c2) h1 h2 h3 h4 w
  have HF : Hid (∀ W v caps, v = #[] → Calls Tryz.prog 93 #[.slice ao 0 d, .bool true, .func (.func 94) v caps] W fun en w' => en = .returned (.tuple #[.bool true, .int .i64 0]) ∧ Below W.heap.size W w') := hid fun W v caps hv0 => by
    subst hv0
    have := foldVExbo (l := []) (B := W.heap.size) (by simp) (Nat.le_refl _) (Q := fun _ => False) (fun b hq => hq.elim) (show RowIs eG (fun _ => False) W (.slice ao 0 d) [] from ⟨ao, 0, d, rfl, rfl, Nat.zero_le _, h5, fun h => absurd h (by omega)⟩) (caps := caps) (N := 94) (fun args w' => by rfl) (fun _ => 0) (fun i w' k => Below W.heap.size W w' ∧ k = true)
      (fun i w' k hI => hI.1) (fun i w' k o hI => ⟨bal hI.1 o, hI.2⟩) (a0 := true) ⟨Below.refl _ _, rfl⟩
      (fun i hi w' k cs hI hE => by simp at hi)
    refine Calls.mono this ?_
    rintro en w3 ⟨k, rfl, hb3, g1, g2⟩
    rw [(g1 rfl).2]
    exact ⟨rfl, hb3⟩
  go_enter Tryz.func63, Tryz.ntmps63
  go_wp2_with fail
  refine Calls.mono (HPr.out _) ?_
  rintro e w4 ⟨rfl, hb4⟩
  clear HPr
  go_wp2_with fail
  refine Calls.mono (HF.out _ _ _ rfl) ?_
  rintro e w6 ⟨rfl, hb6⟩
  have hB6 := Below.on (bal hb4 _) hb6
  clear HF hb6
  go_wp2
  exact bodyPost_ret (v := .tuple #[.bool true, .int .i64 0]) (by simp [results, Tryz.results63]) rfl ⟨rfl, hB6⟩
theorem holC_of {C : List It} (hC5 : C.length ≤ 500) {l : List (Pg × Tg)} (hl : l.length ≤ 1) (hft : ∀ x ∈ l, ftT x) {w0 : World} {ia : Option Addr} {iN ic : Nat} {wa : Option Addr} {wn wc : Nat} {Q1 Q2 : Nat → Prop} (hC : RowIs eItem Q1 w0 (.slice ia iN ic) C) (hw : RowIs eG Q2 w0 (.slice wa wn wc) l)
    {Rs : List (List Vt)} (hR : ∀ r ∈ Rs, r.length = C.length ∧ ∀ v ∈ r, Fits v.2.1) : HolC w0 (.slice ia iN ic) (.slice wa wn wc) Rs (fun r => hoL C r l) := by
  intro W r a n c hb hr hrow
  obtain ⟨h1, h2⟩ := hR r hr
  have hCW := (hC.keep (by decide) fun b _ hlt => hb.block b hlt).mono (by decide) (Q' := fun _ => True) fun _ _ _ => trivial
  have hwW := hw.keep (by decide) fun b _ hlt => hb.block b hlt
  match l, hl with
  | [], _ =>
    obtain ⟨k1, k2, k3⟩ := row_lens hw
    obtain ⟨i1, i2, i3⟩ := row_lens hC
    obtain ⟨r1, r2, r3⟩ := row_lens hrow
    obtain rfl : wn = 0 := by simpa using k1.symm
    obtain rfl : iN = n := by omega
    exact holds0_any i2 r2 i3 r3 k3 W
  | [x], _ => exact holdsV_any hC5 h1.symm h2 x (hft x (by simp)) hCW hrow hwW
set_option maxRecDepth 100000 in
set_option maxHeartbeats 2000000 in
theorem valuesF_any {a : Option Addr} {n c : Nat} (w : World) :
    Calls Tryz.prog 58 #[.slice a n c] w fun e w' => ∃ b, e = .returned (.func (.func 87) #[] #[.pointer (some ⟨b, 0, none⟩)]) ∧ w'.cell? ⟨b, 0, none⟩ = some (.slice a n c) ∧ Below w.heap.size w w' := by
  have hc := cell_new w #[.slice a n c] 36 (0, 0) 0
  simp only [List.getElem?_toArray, List.getElem?_cons_zero] at hc
  have hw := bal (Below.refl w.heap.size w) (.cells #[.slice a n c] 36)
  have hmf : ∀ (fn : Fn) (first cap : Array Value) (w : World), (Instr.makeFunc fn first cap).run Tryz.prog w = .ok (.func fn first cap) w := fun _ _ _ _ => rfl
  have HQ : Hid _ := hid (And.intro hc hw)
  clear hc hw
  go_enter Tryz.func58, Tryz.ntmps58
  go_wp2
  go_ret
  exact ⟨_, rfl, HQ.out.1, HQ.out.2⟩
set_option maxRecDepth 100000 in
set_option maxHeartbeats 2000000 in
theorem suchC_any {ia : Option Addr} {iN ic : Nat} {wa : Option Addr} {wn wc : Nat} {gf : Nat} {lb : Array Value} (w : World) :
    Calls Tryz.prog 33 #[.slice ia iN ic, .func (.func gf) #[] lb, .slice wa wn wc] w fun e w' => ∃ b1 b2 b3, e = .returned (.func (.func 62) #[] #[.pointer (some ⟨b1, 0, none⟩), .pointer (some ⟨b2, 0, none⟩), .pointer (some ⟨b3, 0, none⟩)]) ∧ w'.cell? ⟨b1, 0, none⟩ = some (.func (.func gf) #[] lb) ∧ w'.cell? ⟨b2, 0, none⟩ = some (.slice ia iN ic) ∧ w'.cell? ⟨b3, 0, none⟩ = some (.slice wa wn wc) ∧ Below w.heap.size w w' := by
  have hw := bal (bal (bal (Below.refl w.heap.size w) (.cells #[.slice ia iN ic] 80)) (.cells #[.func (.func gf) #[] lb] 82)) (.cells #[.slice wa wn wc] 26)
  have b2 := (((Bk.new w (.cells #[.slice ia iN ic] 80)).later (bal (Below.refl _ _) (.cells #[.func (.func gf) #[] lb] 82))).later (bal (Below.refl _ _) (.cells #[.slice wa wn wc] 26))).cell 0
  have b1 := ((Bk.new (w.alloc (.cells #[.slice ia iN ic] 80)) (.cells #[.func (.func gf) #[] lb] 82)).later (bal (Below.refl _ _) (.cells #[.slice wa wn wc] 26))).cell 0
  have b3 := (Bk.new ((w.alloc (.cells #[.slice ia iN ic] 80)).alloc (.cells #[.func (.func gf) #[] lb] 82)) (.cells #[.slice wa wn wc] 26)).cell 0
  simp only [World.size_alloc, List.getElem?_toArray, List.getElem?_cons_zero] at b1 b2 b3
  have hmf : ∀ (fn : Fn) (first cap : Array Value) (w : World), (Instr.makeFunc fn first cap).run Tryz.prog w = .ok (.func fn first cap) w := fun _ _ _ _ => rfl
  have HQ : Hid _ := hid (And.intro b1 (And.intro b2 (And.intro b3 hw)))
  clear b1 b2 b3 hw
  go_enter Tryz.func33, Tryz.ntmps33
  go_wp2
  go_ret
  exact ⟨_, _, _, rfl, HQ.out.1, HQ.out.2.1, HQ.out.2.2.1, HQ.out.2.2.2⟩
set_option maxRecDepth 100000 in
set_option maxHeartbeats 2000000 in
theorem folded1_any (x : It) (w : World) : Calls Tryz.prog 35 #[.agg #[.int .i64 x.1, .string x.2.1, .string x.2.2]] w fun e w' => e = .returned (.bool (!decide (x.1 = 0))) ∧ Below w.heap.size w w' := by
  obtain ⟨x1, x2, x3⟩ := x
  have hb := bal (Below.refl w.heap.size w) (.cells #[.int .i64 x1, .string x2, .string x3] 50)
  have d0 := cell_new w #[.int .i64 x1, .string x2, .string x3] 50 (0, 0) 0
  simp only [List.getElem?_toArray, List.getElem?_cons_zero] at d0
  go_enter Tryz.func35, Tryz.ntmps35
  go_upto_region 1 with fail
  generalize w.alloc (.cells #[.int .i64 x1, .string x2, .string x3] 50) = W at *
  go_wp2
  go_ret
  exact ⟨ret_bool (by by_cases h : x1 = 0 <;> simp [bne, h]), hb⟩
set_option maxRecDepth 100000 in
theorem folded1_of (w : World) : SuchZ eItem (fun x => !decide (x.1 = 0)) w (.func (.func 35) #[] #[]) :=
  ⟨_, _, rfl, fun args w' => by rfl, fun x Q cs w' hb hx => by
    have hx' : cs = [.int .i64 x.1, .string x.2.1, .string x.2.2] := hx
    subst hx'
    exact folded1_any x w'⟩
set_option maxRecDepth 100000 in
set_option maxHeartbeats 2000000 in
theorem ordered0_any {ia : Option Addr} {iN ic : Nat} {a : Option Addr} {n c : Nat} {da : Option Addr} {dc : Nat} (ds : Bool) (w : World) :
    Calls Tryz.prog 70 #[.slice ia iN ic, .slice a n c, .slice da 0 dc, .bool ds] w fun e w' => e = .returned (.tuple #[.slice a n c, .int .i64 0]) ∧ w' = w := by
  go_enter Tryz.func70, Tryz.ntmps70
  go_wp2
  refine wp_loop_rounds 1 ?_
  rw [rounds_succ]
  go_wp2
  exact bodyPost_ret (v := .tuple #[.slice a n c, .int .i64 0]) (by simp [results, Tryz.results70]) rfl ⟨rfl, rfl⟩
set_option maxRecDepth 100000 in
set_option maxHeartbeats 2000000 in
theorem only0_any {R : List (List Vt)} (hR : R.length ≤ 500) (hM : ∀ l ∈ R, l.length ≤ 500) (hs : ∀ l ∈ R, ∀ v ∈ l, v.2.2.size ≤ 281474976710656) {ia : Option Addr} {iN ic : Nat} {ta : Option Addr} {tc : Nat} {Q : Nat → Prop} {w : World} {a : Option Addr} {n c : Nat} (h : RowIs eRow Q w (.slice a n c) R) :
    Calls Tryz.prog 71 #[.slice ia iN ic, .slice ta 0 tc, .slice a n c] w fun e w' => ∃ a' n' c', e = .returned (.tuple #[.slice a' n' c', .int .i64 0]) ∧ TeRs w.heap.size w' (.slice a' n' c') R ∧ Below w.heap.size w w' := by
  have hw := bal (Below.refl w.heap.size w) (.cells #[.slice ia iN ic] 80)
  have HC : Hid _ := hid (copied_any hR hM hs (h.keep (by decide) fun b _ hl => hw.block b hl))
  clear h hM hs
  go_enter Tryz.func71, Tryz.ntmps71
  go_upto_region 1 with fail
  generalize w.alloc (.cells #[.slice ia iN ic] 80) = W at *
  go_wp2_with fail
  refine Calls.mono HC.out ?_
  rintro e w1 ⟨v, rfl, ht, hb1⟩
  obtain ⟨a', n', c', rfl⟩ : ∃ a' n' c', v = .slice a' n' c' := by
    obtain ⟨css, ho, -, -⟩ := ht
    exact ho.sl
  have hB := Below.on hw hb1
  have HT : Hid _ := hid (ht.base hw.size)
  clear HC ht hb1
  go_wp2
  exact bodyPost_ret (v := .tuple #[.slice a' n' c', .int .i64 0]) (by simp [results, Tryz.results71]) rfl ⟨_, _, _, rfl, HT.out, hB⟩

end Go.Proofs.YtnlaaejdianfjaaGreat
namespace Go.Proofs.YtnlaaejdianfjaaGreat
open Go.RowKit
set_option linter.unusedVariables false
set_option linter.unusedSimpArgs false

abbrev orX (x y : Pg × Tg) : Pg × Tg := ((15, 0, 0, ⟨#[]⟩, ⟨#[]⟩, ⟨#[]⟩), .node 0 0 x.1 x.2 (.node 0 0 y.1 y.2 .nil))
/-- One, then the other. -/
def thenP (p q : Bool × Int) : Bool × Int := if p.2 ≠ 0 then (false, p.2) else if p.1 then (true, 0) else if q.2 ≠ 0 then (false, q.2) else (q.1, 0)
theorem ho_ag {C : List It} {K : List Int} {V : List Vt} {x : Pg × Tg} (h : AgC C K V x) (hk : kdT (pairP C K) x = (3, 0)) : hoR C V [x] = hoE C V x := by
  obtain ⟨h1, h2⟩ := h 3 hk
  unfold hoR hoE
  dsimp only
  rw [← h1]
  by_cases he : (evT C V x).2 = 0
  · rw [nz_ok he]
  · rw [nz_er he]
    simp [he]
theorem or_step {C : List It} {K : List Int} {V : List Vt} {x y : Pg × Tg} (hx : AgC C K V x) (hy : AgC C K V y) (hkx : kdT (pairP C K) x = (3, 0)) (hky : kdT (pairP C K) y = (3, 0)) : hoE C V (orX x y) = thenP (hoR C V [x]) (hoR C V [y]) := by
  rw [ho_ag hx hkx, ho_ag hy hky]
  obtain ⟨-, h2⟩ := hx 3 hkx
  obtain ⟨-, h4⟩ := hy 3 hky
  unfold hoE
  rw [evT_or (u := x) (v := y) rfl rfl]
  generalize evT C V x = r0 at *
  generalize evT C V y = r1 at *
  unfold thenP upP
  dsimp only
  by_cases e0 : r0.2 = 0
  · rw [bo_ok e0 (h2 e0)]
    simp only [e0, ne_eq, not_true_eq_false, if_false, decide_true, Bool.true_and]
    by_cases p0 : r0.1.2.1 = 1
    · simp [p0, trV]
    · simp only [p0, if_false, decide_false, Bool.false_eq_true]
      by_cases e1 : r1.2 = 0
      · rw [bo_ok e1 (h4 e1)]
        rcases (h4 e1).2.2.2 rfl with v1 | v1 <;> rw [v1] <;> simp [e1, trV]
      · rw [bo_er e1]; simp [e1, trV]
  · rw [bo_er e0]; simp [e0, trV]
theorem fnd_snoc (h : List Vt → Bool × Int) (r : List Vt) : ∀ L : List (List Vt), (fndP h L).2 = 0 → fndP h (L ++ [r]) = if (h r).2 ≠ 0 then ((fndP h L).1, (h r).2) else if (h r).1 then ((fndP h L).1 ++ [r], 0) else ((fndP h L).1, 0)
  | [], _ => by
    simp only [List.nil_append, fndP]
  | a :: L, hz => by
    rw [fndP] at hz ⊢
    rw [List.cons_append, fndP]
    split at hz
    · rename_i h1; exact absurd hz h1
    · rename_i h1
      rw [if_neg h1, if_neg h1]
      split at hz
      · rename_i h2
        rw [if_pos h2, if_pos h2, fnd_snoc h r L hz]
        split
        · rfl
        · split <;> rfl
      · rename_i h2
        rw [if_neg h2, if_neg h2, fnd_snoc h r L hz]
theorem fnd_stop (h : List Vt → Bool × Int) : ∀ L M : List (List Vt), (fndP h L).2 ≠ 0 → fndP h (L ++ M) = fndP h L
  | [], M, hz => absurd rfl hz
  | a :: L, M, hz => by
    rw [fndP] at hz ⊢
    rw [List.cons_append, fndP]
    split at hz
    · rename_i h1; rw [if_pos h1, if_pos h1]
    · rename_i h1
      rw [if_neg h1, if_neg h1]
      split at hz
      · rename_i h2; rw [if_pos h2, if_pos h2, fnd_stop h L M hz]
      · rename_i h2; rw [if_neg h2, if_neg h2, fnd_stop h L M hz]
theorem OwnR.rowsZ {B : Nat} {w : World} {a : Option Addr} {m d : Nat} {Z : List Zt} (h : OwnR 42 1 B w (.slice a m d) (zC Z)) (hr : ∀ z ∈ Z, RowIs eVal (fun _ => True) w (slV z.1) z.2) : RowIs eRow (fun _ => True) w (.slice a m d) (Z.map (·.2)) :=
  OwnR.rowE (e := eRow) h (by simp [zC]) (fun _ _ _ => trivial) fun i h1 h2 => by
    have hi : i < Z.length := by simpa using h1
    exact ⟨Z[i].1.1, Z[i].1.2.1, Z[i].1.2.2, by simp [zC], by rw [List.getElem_map]; exact hr _ (List.getElem_mem hi)⟩
theorem fnd_congr {f h : List Vt → Bool × Int} : ∀ {L : List (List Vt)}, (∀ r ∈ L, f r = h r) → fndP f L = fndP h L
  | [], _ => rfl
  | a :: L, hf => by
    rw [fndP, fndP, hf a (by simp), fnd_congr fun r hr => hf r (by simp [hr])]

end Go.Proofs.YtnlaaejdianfjaaGreat
namespace Go.Proofs.YtnlaaejdianfjaaGreat
open Go.RowKit
set_option linter.unusedVariables false
set_option linter.unusedSimpArgs false

abbrev svR (s : Sv) : Obj := .cells #[.int .i64 s.k, .string s.tb, .string s.nm, .slice s.co.1 s.co.2.1 s.co.2.2, .slice s.ta.1 s.ta.2.1 s.ta.2.2, .slice s.va.1 s.va.2.1 s.va.2.2, .slice s.it.1 s.it.2.1 s.it.2.2, .string s.jn, .slice s.on.1 s.on.2.1 s.on.2.2, .slice s.wh.1 s.wh.2.1 s.wh.2.2, .slice s.od.1 s.od.2.1 s.od.2.2, .bool s.ds, .slice s.inn.1 s.inn.2.1 s.inn.2.2] 30
/-- The first that is not 0. -/
def fstE (a b c : Int) : Int := if a ≠ 0 then a else if b ≠ 0 then b else c
/-- Rows, and a fault with which there are none. -/
def TeSel (w : World) (E : Int) (R : List (List Vt)) (e : Ending) (w' : World) : Prop := ∃ a n c, e = .returned (.tuple #[.slice a n c, .int .i64 E]) ∧ (E = 0 → TeRs w.heap.size w' (.slice a n c) R) ∧ (E ≠ 0 → a = none ∧ n = 0 ∧ c = 0) ∧ Below w.heap.size w w'
theorem TeSel.fail {w w' : World} {E : Int} {R : List (List Vt)} (hE : E ≠ 0) (hb : Below w.heap.size w w') : TeSel w E R (.returned (.tuple #[.slice none 0 0, .int .i64 E])) w' := ⟨none, 0, 0, rfl, fun h => absurd h hE, fun _ => ⟨rfl, rfl, rfl⟩, hb⟩
theorem TeSel.on {w w1 w' : World} {E : Int} {R : List (List Vt)} {e : Ending} (hb : Below w.heap.size w w1) (h : TeSel w1 E R e w') : TeSel w E R e w' := by
  obtain ⟨a, n, c, h1, h2, h3, h4⟩ := h
  exact ⟨a, n, c, h1, fun h => (h2 h).base hb.size, h3, Below.on hb h4⟩
theorem SeqW.weak {P : Program} {g : Nat} {lb : Array Value} {N : Nat} {A A' : Nat → Nat → World → Array Value → Prop} {w : World} (h : SeqW P g lb N A w) (hA : ∀ k s W xs, A k s W xs → A' k s W xs) : SeqW P g lb N A' w :=
  fun l J Jx W hW hY h0 => h l J Jx W hW (fun k W1 W2 xs h1 h2 h3 h4 h5 => hY k W1 W2 xs h1 h2 h3 h4 (hA _ _ _ _ h5)) h0
theorem A2.up {n0 n1 : Nat} {F : List (List Vt) × Int} {k s : Nat} {W : World} {xs : Array Value} (hn : n0 ≤ n1) (h : A2 n0 F k s W xs) : A2 n1 F k s W xs := by
  rcases h with ⟨a, n, c, r, rfl, h1, h2⟩ | h
  · exact .inl ⟨a, n, c, r, rfl, h1, h2.mono (by decide) fun b hq _ => hq.imp (fun x => Nat.lt_of_lt_of_le x hn) id⟩
  · exact .inr h
theorem A1.up {n0 n1 : Nat} {Rs : List (List Vt)} {k s : Nat} {W : World} {xs : Array Value} (hn : n0 ≤ n1) (h : A1 n0 Rs k s W xs) : A1 n1 Rs k s W xs := by
  obtain ⟨a, n, c, r, rfl, h1, h2⟩ := h
  exact ⟨a, n, c, r, rfl, h1, h2.mono (by decide) fun b hq _ => hq.imp (fun x => Nat.lt_of_lt_of_le x hn) id⟩
theorem SeqW.up2 {g : Nat} {lb : Array Value} {N : Nat} {F : List (List Vt) × Int} {w w' : World} (h : SeqW Tryz.prog g lb N (A2 w.heap.size F) w) (hb : Below w.heap.size w w') : SeqW Tryz.prog g lb N (A2 w'.heap.size F) w' := (h.later hb).weak fun _ _ _ _ q => q.up hb.size
theorem SeqW.up1 {g : Nat} {lb : Array Value} {N : Nat} {Rs : List (List Vt)} {w w' : World} (h : SeqW Tryz.prog g lb N (A1 w.heap.size Rs) w) (hb : Below w.heap.size w w') : SeqW Tryz.prog g lb N (A1 w'.heap.size Rs) w' := (h.later hb).weak fun _ _ _ _ q => q.up hb.size
set_option maxRecDepth 100000 in
set_option maxHeartbeats 4000000 in
theorem listed_any {w : World} {ia : Option Addr} {iN ic : Nat} {s : Sv} {gf : Nat} {lb : Array Value} {F : List (List Vt) × Int} {EO EN : Int} {R1 R2 : List (List Vt)} (eg : ∀ args w, (callFunc gf args).run Tryz.prog w = .ok (.enter gf args) w) (hl : F.1.length ≤ 500) (hs : SeqW Tryz.prog gf lb (fndN F) (A2 w.heap.size F) w)
    (hO : ∀ W a n c, Below w.heap.size w W → F.2 = 0 → RowIs eRow (fun _ => True) W (.slice a n c) F.1 → Calls Tryz.prog 70 #[.slice ia iN ic, .slice a n c, .slice s.od.1 s.od.2.1 s.od.2.2, .bool s.ds] W fun e w' => ∃ a' n' c', e = .returned (.tuple #[.slice a' n' c', .int .i64 EO]) ∧ (EO = 0 → RowIs eRow (fun _ => True) w' (.slice a' n' c') R1) ∧ Below W.heap.size W w')
    (hN : ∀ W a n c, Below w.heap.size w W → F.2 = 0 → EO = 0 → RowIs eRow (fun _ => True) W (.slice a n c) R1 → Calls Tryz.prog 71 #[.slice ia iN ic, .slice s.it.1 s.it.2.1 s.it.2.2, .slice a n c] W (TeSel W EN R2)) :
    Calls Tryz.prog 37 #[.slice ia iN ic, stV s, .func (.func gf) #[] lb] w (TeSel w (fstE F.2 EO EN) R2) := by
  have hw := bal (Below.refl w.heap.size w) (svR s)
  have hbs : Bs (w.alloc (svR s)) w.heap.size s := ⟨heap_alloc_new w _⟩
  have HG : Hid _ := hid (gathered_any eg hl (hs.up2 hw))
  have HO : Hid _ := hid hO
  have HN : Hid _ := hid hN
  clear hO hN hs hl eg
  go_enter Tryz.func37, Tryz.ntmps37
  dsimp only [stV]
  go_upto_region 1 with fail
  generalize w.alloc (svR s) = W at *
  obtain ⟨q, hq⟩ : ∃ q, w.heap.size = q := ⟨_, rfl⟩
  rw [hq] at hbs
  (try rw [hq])
  go_wp2_with fail
  refine Calls.mono HG.out ?_
  rintro e w1 ⟨a, n, c, rfl, hb1, hr1, -⟩
  have hB1 := Below.on hw hb1
  have hs1 := hbs.later hb1
  obtain ⟨f1, f2⟩ := F
  dsimp only at *
  by_cases h0 : f2 = 0
  · subst h0
    have HO1 : Hid _ := hid (HO.out w1 a n c hB1 rfl (hr1 rfl))
    obtain ⟨-, -, -, -, -, -, c6, -, -, -, c10, c11, -⟩ := hs1.cells
    clear HG hb1 hr1 HO hbs
    go_wp2_with fail
    refine Calls.mono HO1.out ?_
    rintro e w2 ⟨a2, n2, c2, rfl, hr2, hb2⟩
    have hB2 := Below.on hB1 hb2
    replace c6 := cell_later hb2 c6
    clear HO1 c10 c11 hs1
    by_cases h1 : EO = 0
    · subst h1
      have HN1 : Hid _ := hid (HN.out w2 a2 n2 c2 hB2 (by first | rfl | trivial) (by first | rfl | trivial) (hr2 (by first | rfl | trivial)))
      clear HN hr2 hb2
      go_wp2_with fail
      refine Calls.mono HN1.out ?_
      rintro e w3 h3
      obtain ⟨a3, n3, c3, rfl, q1, q2, hb3⟩ := h3
      have HQ : Hid (TeSel w (fstE 0 0 EN) R2 (.returned (.tuple #[.slice a3 n3 c3, .int .i64 EN])) w3) := hid (TeSel.on hB2 ⟨a3, n3, c3, rfl, q1, q2, hb3⟩)
      clear HN1 q1 q2 hb3
      go_wp2
      exact bodyPost_ret (v := .tuple #[.slice a3 n3 c3, .int .i64 EN]) (by simp [results, Tryz.results37]) rfl HQ.out
    · have h0' : (EO != 0) = true := by simpa using h1
      have h0d : decide (EO = 0) = false := by simpa using h1
      have HQ : Hid (TeSel w (fstE 0 EO EN) R2 (.returned (.tuple #[.slice none 0 0, .int .i64 EO])) w2) := hid (by
        rw [show fstE 0 EO EN = EO from by simp [fstE, h1]]
        exact TeSel.fail h1 hB2)
      clear HN hr2 hb2
      go_wp2
      exact bodyPost_ret (v := .tuple #[.slice none 0 0, .int .i64 EO]) (by simp [results, Tryz.results37]) rfl HQ.out
  · have h0' : (f2 != 0) = true := by simpa using h0
    have h0d : decide (f2 = 0) = false := by simpa using h0
    have HQ : Hid (TeSel w (fstE f2 EO EN) R2 (.returned (.tuple #[.slice none 0 0, .int .i64 f2])) w1) := hid (by
      rw [show fstE f2 EO EN = f2 from by simp [fstE, h0]]
      exact TeSel.fail h0 hB1)
    clear HG hb1 hr1 HO HN hbs hs1
    go_wp2
    exact bodyPost_ret (v := .tuple #[.slice none 0 0, .int .i64 f2]) (by simp [results, Tryz.results37]) rfl HQ.out

end Go.Proofs.YtnlaaejdianfjaaGreat
namespace Go.Proofs.YtnlaaejdianfjaaGreat
open Go.RowKit
set_option linter.unusedVariables false
set_option linter.unusedSimpArgs false

abbrev tbV (nm : ByteArray) (c x : Sl) : Value := .agg #[.string nm, .slice c.1 c.2.1 c.2.2, .slice x.1 x.2.1 x.2.2]
abbrev tbRO (nm : ByteArray) (c x : Sl) : Obj := .cells #[.string nm, .slice c.1 c.2.1 c.2.2, .slice x.1 x.2.1 x.2.2] 33
/-- What from tells: the columns, and the rows one by one; or a fault. -/
def FrP (w : World) (C : List It) (Rs : List (List Vt)) (E : Int) (e : Ending) (w' : World) : Prop := ∃ ia iN ic gf lb,
  e = .returned (.tuple #[.slice ia iN ic, .func gf #[] lb, .int .i64 E]) ∧ Below w.heap.size w w' ∧ (E = 0 → ∃ g, gf = .func g ∧ (∀ args w2, (callFunc g args).run Tryz.prog w2 = .ok (.enter g args) w2) ∧ RowIs eItem (fun _ => True) w' (.slice ia iN ic) C ∧ SeqW Tryz.prog g lb Rs.length (A1 w'.heap.size Rs) w')
theorem its_row {B : Nat} {w : World} {v : Value} {l : List It} (h : OwnR 50 3 B w v (l.map itC)) : RowIs eItem (fun _ => True) w v l := OwnR.rowE (e := eItem) h (by simp) (fun _ _ _ => trivial) fun i h1 h2 => by
  show _ = _
  simp [itC]
set_option maxRecDepth 100000 in
set_option maxHeartbeats 4000000 in
theorem fromN_any {s : Sv} (hj : s.jn = ⟨#[]⟩) {t : Tbl} (ht : t.cols.length ≤ 200) {c x c2 x2 : Sl} {n2 : ByteArray} {w : World} {Q1 Q2 Q3 : Nat → Prop} (hc : RowIs eCol Q1 w (slV c) t.cols) (hx : RowIs eStr Q2 w (slV x) t.index) {lr rr : Sl} {L : List (List Vt)} (hL : RowIs eRow Q3 w (slV lr) L) :
    Calls Tryz.prog 32 #[stV s, tbV t.name c x, tbV n2 c2 x2, slV lr, slV rr] w (FrP w (scP [t]) L 0) := by
  have hw := bal (bal (bal (Below.refl w.heap.size w) (svR s)) (tbRO t.name c x)) (tbRO n2 c2 x2)
  have bs : Bs (((w.alloc (svR s)).alloc (tbRO t.name c x)).alloc (tbRO n2 c2 x2)) w.heap.size s := (⟨heap_alloc_new w _⟩ : Bs (w.alloc (svR s)) w.heap.size s).later (bal (bal (Below.refl _ _) _) _)
  have bt := (Bk.new (w.alloc (svR s)) (tbRO t.name c x)).later (bal (Below.refl _ _) (tbRO n2 c2 x2))
  rw [World.size_alloc] at bt
  have HL : Hid (∀ w', Below w.heap.size w w' → RowIs eRow (fun _ => True) w' (slV lr) L) := hid fun w' hb => (hL.keep (by decide) fun b _ hl => hb.block b hl).mono (by decide) fun _ _ _ => trivial
  have HCo : Hid (∀ w', Below w.heap.size w w' → RowIs eTbl (fun _ => True) (w'.alloc (tbRO t.name c x)) (.slice (some ⟨w'.heap.size, 0, none⟩) 1 1) [t]) := hid fun w' hb => by
    have hb2 := bal hb (tbRO t.name c x)
    have bn := Bk.new w' (tbRO t.name c x)
    have d0 := bn.cell 0
    have d1 := bn.cell 1
    have d2 := bn.cell 2
    simp only [List.getElem?_toArray, List.getElem?_cons_zero, List.getElem?_cons_succ] at d0 d1 d2
    refine ⟨_, 1, 1, rfl, rfl, Nat.le_refl _, by decide, fun _ => ⟨w'.heap.size, 0, rfl, trivial, fun i hi => ?_⟩⟩
    obtain rfl : i = 0 := by simpa using hi
    refine ⟨[.string t.name, .slice c.1 c.2.1 c.2.2, .slice x.1 x.2.1 x.2.2], ⟨_, _, _, _, _, _, rfl, (hc.keep (by decide) fun b _ hl => hb2.block b hl).mono (by decide) fun _ _ _ => trivial, (hx.keep (by decide) fun b _ hl => hb2.block b hl).mono (by decide) fun _ _ _ => trivial⟩, rfl, fun j hj => ?_⟩
    have hj3 : j < 3 := hj
    match j, hj3 with
    | 0, _ => exact d0
    | 1, _ => exact d1
    | 2, _ => exact d2
  have HT : Hid _ := hid ht
  have HJn : Hid (s.jn = ⟨#[]⟩) := hid hj
  clear hc hx hL ht hj
  go_enter Tryz.func32, Tryz.ntmps32
  dsimp only [stV]
  go_upto_region 1 with fail
  generalize ((w.alloc (svR s)).alloc (tbRO t.name c x)).alloc (tbRO n2 c2 x2) = W at *
  obtain ⟨q, hq⟩ : ∃ q, w.heap.size = q := ⟨_, rfl⟩
  rw [hq] at bs bt
  (try rw [hq])
  obtain ⟨-, -, -, -, -, -, -, c7, -, -, -, -, -⟩ := bs.cells
  have d0 := bt.cell 0
  have d1 := bt.cell 1
  have d2 := bt.cell 2
  simp only [List.getElem?_toArray, List.getElem?_cons_zero, List.getElem?_cons_succ] at d0 d1 d2
  rw [HJn.out] at c7
  have HCW : Hid _ := hid (relCols_any (by simp) (by intro t' h'; simp at h'; rw [h']; exact HT.out) (HCo.out W hw))
  clear bs bt HCo hq
  go_wp2_with fail
  refine Calls.mono HCW.out ?_
  rintro e w1 ⟨v, rfl, ho, hb1⟩
  obtain ⟨ia, iN, ic, rfl⟩ := ho.sl
  have hB1 := Below.on (bal hw (tbRO t.name c x)) hb1
  have HO : Hid _ := hid (its_row ho)
  have HV : Hid (∀ w, _) := hid fun y => valuesF_any (a := lr.1) (n := lr.2.1) (c := lr.2.2) y
  clear HCW ho hb1 c7 d0 d1 d2
  go_wp2_with fail
  refine Calls.mono (HV.out _) ?_
  rintro e w2 ⟨b, rfl, hc2, hb2⟩
  have hB2 := Below.on hB1 hb2
  have HQ : Hid (FrP w (scP [t]) L 0 (.returned (.tuple #[.slice ia iN ic, .func (.func 87) #[] #[.pointer (some ⟨b, 0, none⟩)], .int .i64 0])) w2) := hid ⟨ia, iN, ic, _, _, rfl, hB2, fun _ => ⟨_, rfl, fun args w3 => by rfl, HO.out.keep (by decide) fun b _ hl => hb2.block b hl, values_any hc2 (HL.out _ hB2)⟩⟩
  clear HV hc2 hb2 HL
  go_wp2
  exact bodyPost_ret (v := .tuple #[.slice ia iN ic, .func (.func 87) #[] #[.pointer (some ⟨b, 0, none⟩)], .int .i64 0]) (by simp [results, Tryz.results32]) rfl HQ.out
theorem fnd_sub (hol : List Vt → Bool × Int) : ∀ (L : List (List Vt)), (fndP hol L).1.length ≤ L.length ∧ ∀ r ∈ (fndP hol L).1, r ∈ L
  | [] => ⟨Nat.le_refl _, fun r h => h⟩
  | x :: L => by
    obtain ⟨h1, h2⟩ := fnd_sub hol L
    unfold fndP
    split
    · exact ⟨Nat.zero_le _, fun r h => by simp at h⟩
    · split
      · refine ⟨by simp; exact h1, fun r h => ?_⟩
        rcases List.mem_cons.1 h with rfl | h
        · simp
        · exact List.mem_cons_of_mem _ (h2 r h)
      · exact ⟨by simp; omega, fun r h => List.mem_cons_of_mem _ (h2 r h)⟩

end Go.Proofs.YtnlaaejdianfjaaGreat
