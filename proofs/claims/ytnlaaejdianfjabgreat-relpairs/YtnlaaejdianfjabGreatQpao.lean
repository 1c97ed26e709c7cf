import Derived.Test.YtnlaaejdianfjabGreatQpan
import Derived.Test.YtnlaaejdianfjabGreatQpam
import Derived.Lib.AppendZerosOnto
namespace Go.Proofs.YtnlaaejdianfjabGreat
open Go.RowKit
set_option linter.unusedVariables false
set_option linter.unusedSimpArgs false

theorem wpList_appU {t e : TypeId} {z : Value} {k bytes B : Nat} (ht : Tryz.prog.underlying t = some (.slice e)) (hinf : (Tryz.prog.info? e).map (fun i => (i.zero, i.size, i.bytes)) = some (some z, k, bytes)) (hzs : z.cells.size = k) (hk : 0 < k) (hby : bytes ≤ 1000)
    {w : World} {ops : Array Oper} {rest : List Oper} {o : Oper} {a : Act} {Q : Exit → Act → World → Prop} (hgd : o.guard = none) (s x : Operand)
    (ho : o.op = .call { callee := .builtin .append, args := #[s, x], argTypes := #[t, t] }) (b n cap : Nat) (ao : Option Addr) (m c : Nat) (css css2 : List (List Value)) (hs : a.eval s = .slice (some ⟨b, 0, none⟩) n cap) (hxv : a.eval x = .slice ao m c)
    (hown : OwnR e k B w (.slice (some ⟨b, 0, none⟩) n cap) css) (hcs : ∀ cs ∈ css2, cs.length = k) (hm : css2.length = m) (h1 : ∀ u ∈ css2.flatten, u.oneCell' = true) (hx : ∀ j u, css2.flatten[j]? = some u → ∃ ad, ao = some ad ∧ w.cell? (ad.add j) = some u) (hl : css.length + m ≤ 1000) (hB : B ≤ w.heap.size)
    (h : ∀ b' n' c' w', OwnR e k B w' (.slice (some ⟨b', 0, none⟩) n' c') (css ++ css2) → w.grownBy w' (some b) → (b' = b ∨ b' = w.heap.size) → wpList Tryz.prog ops Q rest (a.put o.dst (.slice (some ⟨b', 0, none⟩) n' c')) w') : wpList Tryz.prog ops Q (o :: rest) a w :=
  wpList_plain hgd fun _ hK => by
    obtain ⟨b', n', c', w', hr, h2, h3, h4⟩ := run_appU ht hinf hzs hk hby w b n cap ao m c css css2 hown hcs hm h1 hx hl hB (ty := o.type)
    unfold Oper.wp execOp
    simp only [ho, resolve, invoke, builtin, Sem.run_bind, Sem.run_pure, Result.andThen_ok, List.map_toArray, List.map_cons, List.map_nil, hs, hxv, hr]
    exact hK _ _ (h b' n' c' w' h2 h3 h4)
theorem wpList_appZ {w : World} {ops : Array Oper} {rest : List Oper} {o : Oper} {a : Act} {Q : Exit → Act → World → Prop} (hgd : o.guard = none) (s x : Operand)
    (ho : o.op = .call { callee := .builtin .append, args := #[s, x], argTypes := #[48, 3] }) (n : Nat) (h0 : 0 < n) (hn : n ≤ 1000) (hs : a.eval s = .slice none 0 0) (hxv : a.eval x = .int .i64 n)
    (h : ∀ g c w', g = w.heap.size → n ≤ c → c ≤ 9223372036854775807 → OwnR 39 3 w.heap.size w' (.slice (some ⟨g, 0, none⟩) 0 c) [] → Below w.heap.size w w' → wpList Tryz.prog ops Q rest (a.put o.dst (.slice (some ⟨g, 0, none⟩) n c)) w') : wpList Tryz.prog ops Q (o :: rest) a w :=
  wpList_plain hgd fun _ hK => by
    obtain ⟨i, hi, hz, hsz, hb⟩ := info_parts Tryz.infoTVal
    have hr := Lib.run_append_nil_zeros w 48 3 o.type 39 i _ .i64 .i64 Tryz.underlying48 Tryz.underlying3 hi hz n h0 (by omega) (by omega) (by rw [hb]; omega)
    unfold Oper.wp execOp
    simp only [ho, resolve, invoke, builtin, Sem.run_bind, Sem.run_pure, Result.andThen_ok, List.map_toArray, List.map_cons, List.map_nil, hs, hxv, hr]
    have hge := grownCap_ge w n 0 39
    have hle := grownCap_le_maxLen w n 0 39 (by unfold maxLen; omega)
    refine hK _ _ (h w.heap.size _ _ rfl hge (by unfold maxLen at hle; exact hle) ?_ ?_)
    · refine OwnR.made 39 3 w.heap.size w.drew _ _ (Nat.le_refl _) hle ?_
      rw [Array.size_append, size_zeroCells, size_zeroCells]
      show n * 3 + _ * 3 = _ * 3
      omega
    · exact bal (Below.refl _ w).drew _
set_option maxRecDepth 100000 in
theorem slice_valsZero {ao : Option Addr} {n c : Nat} (hc : n ≤ c) (w' : World) : (Instr.slice 48 (.slice ao n c) none (some (.int .i64 0)) none).run Tryz.prog w' = .ok (.slice ao 0 c) w' := by
  have e0 : ∀ a : Addr, a.add 0 = a := fun a => by unfold Addr.add; simp
  have hrc' : (0 : Int) ≤ (c : Int) := by omega
  cases ao with
  | none => go_simp
  | some a => go_simp
set_option maxRecDepth 100000 in
set_option maxHeartbeats 4000000 in
theorem grow_any (n : Nat) (h0 : 0 < n) (hn : n ≤ 1000) (w : World) : Calls Tryz.prog 88 #[.slice none 0 0, .int .i64 n] w fun e w' => ∃ g c, e = .returned (.slice (some ⟨g, 0, none⟩) 0 c) ∧ OwnR 39 3 w.heap.size w' (.slice (some ⟨g, 0, none⟩) 0 c) [] ∧ Below w.heap.size w w' := by
  have n1 : ¬ (n : Int) < 0 := by omega
  have n2 : (0 : Int) < (n : Int) := by omega
  have n3 : decide ((n : Int) < 0) = false := by simp
  have n4 : decide ((0 : Int) < (n : Int)) = true := by simpa using n2
  have hwn : IntKind.i64.wrap ((n : Int)) = (n : Int) := by rw [IntKind.wrap_i64]; omega
  have sl0 := fun w' => slice_valsZero (ao := none) (n := 0) (c := 0) (Nat.le_refl _) w'
  go_enter Tryz.func88, Tryz.ntmps88
  go_wp2_with (first | (at_builtin; go_must (refine wpList_appZ rfl (.tmp 20) (.tmp 21) rfl n h0 hn rfl rfl ?_)) | fail)
  intro g c w1 hg hnc hc hO hb
  have sl1 := fun w' => slice_valsZero (ao := some ⟨g, 0, none⟩) (n := n) (c := c) hnc w'
  have HO : Hid _ := hid hO
  clear hg hO
  go_wp2
  go_ret
  exact ⟨g, c, rfl, HO.out, hb⟩
theorem flat_take {M : List (List Vt)} {k : Nat} (hk : k < M.length) : (M.take (k + 1)).flatten = (M.take k).flatten ++ M[k] := by
  rw [List.take_succ_eq_append_getElem hk, List.flatten_append]; simp
theorem flat_le {M : List (List Vt)} (k : Nat) : (M.take k).flatten.length ≤ M.flatten.length := by
  have : M.flatten = (M.take k).flatten ++ (M.drop k).flatten := by rw [← List.flatten_append, List.take_append_drop]
  rw [this, List.length_append]; omega
set_option maxRecDepth 100000 in
set_option maxHeartbeats 8000000 in
theorem concat_any {M : List (List Vt)} (h0 : 0 < M.flatten.length) (h5 : M.flatten.length ≤ 1000) {Q : Nat → Prop} {w : World} {a : Option Addr} {n c : Nat} (h : RowIs eRow Q w (.slice a n c) M) :
    Calls Tryz.prog 78 #[.slice a n c] w fun e w' => ∃ a' m' c', e = .returned (.slice a' m' c') ∧ OwnR 39 3 w.heap.size w' (.slice a' m' c') (M.flatten.map cVs) ∧ Below w.heap.size w w' := by
  obtain ⟨l1, l2, l3⟩ := row_lens h
  have HR : Hid (∀ w', Below w.heap.size w w' → RowIs eRow Q w' (.slice a n c) M) := hid fun w' hb => h.keep (by decide) fun b _ hl => hb.block b hl
  have HG : Hid (∀ w', _) := hid fun w' => grow_any M.flatten.length h0 h5 w'
  have HN5 : Hid (M.flatten.length ≤ 1000) := hid h5
  obtain ⟨CM, hCM⟩ : ∃ CM, M.flatten.map cVs = CM := ⟨_, rfl⟩
  rw [hCM]
  have HCM : Hid _ := hid hCM
  clear hCM
  clear h
  go_enter Tryz.func78, Tryz.ntmps78
  go_wp2
  go_loopw [3, 11] (fun v3 v11 wr => ∃ (k : Nat), k ≤ n ∧ v11 = .int .i64 k ∧ v3 = .int .i64 ((M.take k).flatten.length : Nat) ∧ Below w.heap.size w wr) (fun _ i _ => n - (intOf i).toNat)
  case atStart => exact ⟨0, Nat.zero_le _, rfl, rfl, Below.refl _ _⟩
  case round =>
    obtain ⟨k, hk, rfl, rfl, hB0⟩ := hrel
    generalize wr = wo at *
    by_cases hlt : k < n
    · have hkM : k < M.length := by omega
      obtain ⟨b, o, xa, xn, xc, rfl, -, x0, rx⟩ := row1 (HR.out wo hB0) hkM
      obtain ⟨x, hx⟩ : ∃ x, M[k] = x := ⟨_, rfl⟩
      rw [hx] at rx
      obtain ⟨p1, p2, p3⟩ := row_lens rx
      have hft := flat_take hkM
      have hle := flat_le (M := M) (k + 1)
      rw [hft, List.length_append, hx] at hle
      have hs2 : (M.take (k + 1)).flatten.length = (M.take k).flatten.length + xn := by rw [hft, List.length_append, hx]; omega
      generalize (M.take k).flatten.length = T at *
      have HS2 : Hid _ := hid hs2
      have hkm : (k : Int) < (n : Int) := by omega
      have hwk := wrapS hlt l2 l3
      have hwT : IntKind.i64.wrap ((T : Int) + (xn : Int)) = ((T + xn : Nat) : Int) := by rw [IntKind.wrap_i64]; omega
      have q1 : ¬ ((T + xn : Nat) : Int) < 0 := by omega
      have q2 : decide (((T + xn : Nat) : Int) < 0) = false := by simpa using q1
      obtain ⟨Z, hZ⟩ : ∃ Z, T + xn = Z := ⟨_, rfl⟩
      rw [hZ] at hwT q1 q2
      have HZ : Hid _ := hid hZ
      clear rx hx hft hle hs2 hZ
      go_wp2
      go_roundw
      case rel => exact ⟨k + 1, hlt, by go_num, by rw [HS2.out, HZ.out], hB0⟩
      case measure => simp only [intOf]; omega
    · obtain rfl : k = n := by omega
      have hT : (M.take k).flatten = M.flatten := by rw [List.take_of_length_le (by omega)]
      rw [hT]
      have hkm : ¬ (k : Int) < (k : Int) := by omega
      clear hT
      obtain ⟨N, hN⟩ : ∃ N, M.flatten.length = N := ⟨_, rfl⟩
      rw [hN] at HG ⊢
      clear hN
      go_wp2_with fail
      refine Calls.mono (HG.out _) ?_
      rintro e w1 ⟨g, cg, rfl, hO, hb1⟩
      have hBw1 := Below.on hB0 hb1
      have hO9 : OwnR 39 3 wo.heap.size w1 (.slice (some ⟨g, 0, none⟩) 0 cg) (((M.take 0).flatten).map cVs) := hO
      have HO1 : Hid (OwnR 39 3 w.heap.size w1 (.slice (some ⟨g, 0, none⟩) 0 cg) (((M.take 0).flatten).map cVs)) := hid (hO9.base hB0.size)
      clear HG hO hO9 hb1
      go_wp2
      go_loopw [6, 27] (fun v6 v27 wz => ∃ (j g m d : Nat), j ≤ k ∧ v27 = .int .i64 j ∧ v6 = .slice (some ⟨g, 0, none⟩) m d ∧ Below w.heap.size w wz ∧ Hid (OwnR 39 3 w.heap.size wz (.slice (some ⟨g, 0, none⟩) m d) ((M.take j).flatten.map cVs))) (fun _ i _ => k - (intOf i).toNat)
      case atStart => exact ⟨0, g, 0, cg, Nat.zero_le _, rfl, rfl, hBw1, HO1⟩
      case round =>
        obtain ⟨j, g, m, d, hj, rfl, rfl, hB, HO⟩ := hrel
        clear hBw1 HO1
        by_cases hjt : j < k
        · have hjM : j < M.length := by omega
          obtain ⟨b, o, xa, xn, xc, rfl, -, x0, rx⟩ := row1 (HR.out _ hB) hjM
          obtain ⟨x, hx⟩ : ∃ x, M[j] = x := ⟨_, rfl⟩
          rw [hx] at rx
          obtain ⟨p1, p2, p3⟩ := row_lens rx
          have hft := flat_take hjM
          rw [hx] at hft
          have hle := flat_le (M := M) (j + 1)
          rw [hft, List.length_append] at hle
          have HF : Hid _ := hid hft
          have hsrc := cVs_src rx
          have hO := HO.out
          have hsz := hB.size
          have hblk := hO.blk
          have hkm : (j : Int) < (k : Int) := by omega
          have hwk := wrapS (k := j) (n := k) (c := c) hjt l2 l3
          have hlen : ((M.take j).flatten.map cVs).length + xn ≤ 1000 := by rw [List.length_map]; have := HN5.out; omega
          have hcm : (x.map cVs).length = xn := by rw [List.length_map]; exact p1
          obtain ⟨CS, hCS⟩ : ∃ CS, (M.take j).flatten.map cVs = CS := ⟨_, rfl⟩
          rw [hCS] at hO hlen
          have HCS : Hid _ := hid hCS
          clear rx hx hft hle p1 HO hCS
          go_wp2_with (first | (at_builtin; go_must (refine wpList_appU Tryz.underlying48 Tryz.infoTVal rfl (by decide) (by decide) rfl (.tmp 31) (.tmp 32) rfl g m d xa xn xc CS (x.map cVs) rfl rfl hO (cVs_one x) hcm (cVs_cell x) hsrc hlen hsz ?_)) | fail)
          intro b' n' c' w6 hO6 hg6 hown
          have hB7 := below_grows hB hsz hg6 fun k e => (hblk k e).1
          have HO6 : Hid (OwnR 39 3 w.heap.size w6 (.slice (some ⟨b', 0, none⟩) n' c') ((M.take (j + 1)).flatten.map cVs)) := hid (by rw [HF.out, List.map_append, HCS.out]; exact hO6)
          clear hO6 hg6 hown hO hsrc hblk HF HCS x0 hB hlen hcm hsz
          go_wp2
          go_roundw
          case rel => exact ⟨j + 1, b', n', c', hjt, by go_num, rfl, hB7, HO6⟩
          case measure => simp only [intOf]; omega
        · obtain rfl : j = k := by omega
          have hO := HO.out
          rw [List.take_of_length_le (by omega), HCM.out] at hO
          have HOE : Hid _ := hid hO
          have hkm : ¬ (j : Int) < (j : Int) := by omega
          clear HO hO
          go_wp2
          go_ret
          exact ⟨_, _, _, rfl, HOE.out, hB⟩

end Go.Proofs.YtnlaaejdianfjabGreat
namespace Go.Proofs.YtnlaaejdianfjabGreat
open Go.RowKit
set_option linter.unusedVariables false
set_option linter.unusedSimpArgs false

/-- The value at a place of two rows, one behind the other; none: there is none. -/
def ptP (l r : List Vt) (p : Nat) : Vt × Bool := match (l ++ r)[p]? with | some v => (v, true) | none => (vZ, false)
set_option maxRecDepth 100000 in
set_option maxHeartbeats 4000000 in
theorem pairAt_any {l r : List Vt} {Q1 Q2 : Nat → Prop} {w : World} {la : Option Addr} {ln lc : Nat} {ra : Option Addr} {rn rc : Nat} (h1 : RowIs eVal Q1 w (.slice la ln lc) l) (h2 : RowIs eVal Q2 w (.slice ra rn rc) r) (h5 : l.length ≤ 500) (p : Nat) (hp5 : p ≤ 1000) :
    Calls Tryz.prog 77 #[.agg #[.slice la ln lc, .slice ra rn rc], .int .i64 p] w fun e w' => e = .returned (.tuple #[vV (ptP l r p).1, .bool (ptP l r p).2]) ∧ Below w.heap.size w w' := by
  have hw := bal (bal (Below.refl w.heap.size w) (.cells #[.slice la ln lc, .slice ra rn rc] 109)) zV
  have bq := (Bk.new w (.cells #[.slice la ln lc, .slice ra rn rc] 109)).later (bal (Below.refl _ _) zV)
  have hz : Bv ((w.alloc (.cells #[.slice la ln lc, .slice ra rn rc] 109)).alloc zV) (w.heap.size + 1) 0 0 ⟨#[]⟩ := by
    have := Bv.new (w.alloc (.cells #[.slice la ln lc, .slice ra rn rc] 109))
    rwa [World.size_alloc] at this
  obtain ⟨m1, m2, m3⟩ := row_lens h1
  obtain ⟨n1, n2, n3⟩ := row_lens h2
  have g1 := h1.keep (w' := (w.alloc (.cells #[.slice la ln lc, .slice ra rn rc] 109)).alloc zV) (by decide) fun b _ hl => hw.block b hl
  have g2 := h2.keep (w' := (w.alloc (.cells #[.slice la ln lc, .slice ra rn rc] 109)).alloc zV) (by decide) fun b _ hl => hw.block b hl
  obtain ⟨d0, d1⟩ : ((w.alloc (.cells #[.slice la ln lc, .slice ra rn rc] 109)).alloc zV).cell? ⟨w.heap.size, 0, none⟩ = some (.slice la ln lc) ∧ ((w.alloc (.cells #[.slice la ln lc, .slice ra rn rc] 109)).alloc zV).cell? ⟨w.heap.size, 1, none⟩ = some (.slice ra rn rc) := ⟨bq.cell 0, bq.cell 1⟩
  obtain ⟨q, hq⟩ : ∃ q, w.heap.size = q := ⟨_, rfl⟩
  rw [hq] at d0 d1 hz
  clear h1 h2 bq
  by_cases hp : p < l.length
  · obtain ⟨x, hx⟩ : ∃ x, l[p] = x := ⟨_, rfl⟩
    have hR : ptP l r p = (x, true) := by unfold ptP; rw [List.getElem?_append_left hp, List.getElem?_eq_getElem hp, hx]
    rw [hR]
    obtain ⟨b, o, rfl, -, x0, x1, x2⟩ := val1 g1 hp
    rw [hx] at x0 x1 x2
    obtain ⟨v0, v1, v2⟩ := x
    have k1 : (p : Int) < (ln : Int) := by omega
    have k2 : decide ((p : Int) < (ln : Int)) = true := by simpa using k1
    clear hR g1 g2 hx hp
    go_enter Tryz.func77, Tryz.ntmps77
    go_upto_region 1 with fail
    (try rw [hq])
    generalize (w.alloc (.cells #[.slice (some ⟨b, o, none⟩) ln lc, .slice ra rn rc] 109)).alloc zV = W at *
    obtain ⟨c0, c1, c2⟩ := hz.cells
    obtain ⟨f0, f1, f2⟩ := hz.free
    have hl := hz.lt
    clear hz
    go_wp2
    exact bodyPost_ret (v := .tuple #[vV (v0, v1, v2), .bool true]) (by simp [results, Tryz.results77, go_sem, c0, c1, c2]) rfl (by first | exact ⟨rfl, below3 hw (by omega) _ _ _⟩ | exact ⟨rfl, hq ▸ below3 hw (by omega) _ _ _⟩)
  have k1 : ¬ (p : Int) < (ln : Int) := by omega
  have k2 : decide ((p : Int) < (ln : Int)) = false := by simpa using k1
  obtain ⟨m, hm⟩ : ∃ m, p = ln + m := ⟨p - ln, by omega⟩
  have hwm : IntKind.i64.wrap ((p : Int) - (ln : Int)) = (m : Int) := by rw [IntKind.wrap_i64]; omega
  by_cases hr : m < r.length
  · obtain ⟨x, hx⟩ : ∃ x, r[m] = x := ⟨_, rfl⟩
    have hR : ptP l r p = (x, true) := by
      unfold ptP
      rw [List.getElem?_append_right (by omega), show p - l.length = m by omega, List.getElem?_eq_getElem hr, hx]
    rw [hR]
    obtain ⟨b, o, rfl, -, x0, x1, x2⟩ := val1 g2 hr
    rw [hx] at x0 x1 x2
    obtain ⟨v0, v1, v2⟩ := x
    have k3 : (m : Int) < (rn : Int) := by omega
    have k4 : decide ((m : Int) < (rn : Int)) = true := by simpa using k3
    clear hR g1 g2 hx hr hp hm
    go_enter Tryz.func77, Tryz.ntmps77
    go_upto_region 1 with fail
    (try rw [hq])
    generalize (w.alloc (.cells #[.slice la ln lc, .slice (some ⟨b, o, none⟩) rn rc] 109)).alloc zV = W at *
    obtain ⟨c0, c1, c2⟩ := hz.cells
    obtain ⟨f0, f1, f2⟩ := hz.free
    have hl := hz.lt
    clear hz
    go_wp2
    exact bodyPost_ret (v := .tuple #[vV (v0, v1, v2), .bool true]) (by simp [results, Tryz.results77, go_sem, c0, c1, c2]) rfl (by first | exact ⟨rfl, below3 hw (by omega) _ _ _⟩ | exact ⟨rfl, hq ▸ below3 hw (by omega) _ _ _⟩)
  · have hR : ptP l r p = (vZ, false) := by
      unfold ptP
      rw [List.getElem?_append_right (by omega), show p - l.length = m by omega, List.getElem?_eq_none (by omega)]
    rw [hR]
    have k3 : ¬ (m : Int) < (rn : Int) := by omega
    have k4 : decide ((m : Int) < (rn : Int)) = false := by simpa using k3
    clear hR g1 g2 hr hp hm
    go_enter Tryz.func77, Tryz.ntmps77
    go_upto_region 1 with fail
    (try rw [hq])
    generalize (w.alloc (.cells #[.slice la ln lc, .slice ra rn rc] 109)).alloc zV = W at *
    obtain ⟨c0, c1, c2⟩ := hz.cells
    obtain ⟨f0, f1, f2⟩ := hz.free
    have hl := hz.lt
    clear hz
    go_wp2
    exact bodyPost_ret (v := .tuple #[vV vZ, .bool false]) (by simp [results, Tryz.results77, go_sem, c0, c1, c2]) rfl (by first | exact ⟨rfl, below3 hw (by omega) _ _ _⟩ | exact ⟨rfl, hq ▸ below3 hw (by omega) _ _ _⟩)

/-- Are the values at both places alike? -/
def akP (l r : List Vt) (a b : Nat) : Bool := (ptP l r a).2 && (ptP l r b).2 && decide (cmpVt (ptP l r a).1 (ptP l r b).1 = 0)
set_option maxRecDepth 100000 in
set_option maxHeartbeats 4000000 in
theorem alikeP_any {l r : List Vt} {Q1 Q2 : Nat → Prop} {w : World} {la : Option Addr} {ln lc : Nat} {ra : Option Addr} {rn rc : Nat} (h1 : RowIs eVal Q1 w (.slice la ln lc) l) (h2 : RowIs eVal Q2 w (.slice ra rn rc) r) (h5 : l.length ≤ 500) (a b : Nat) (ha : a ≤ 1000) (hb : b ≤ 1000) :
    Calls Tryz.prog 49 #[.agg #[.slice la ln lc, .slice ra rn rc], .int .i64 a, .int .i64 b] w fun e w' => e = .returned (.bool (akP l r a b)) ∧ Below w.heap.size w w' := by
  have hw := bal (Below.refl w.heap.size w) (.cells #[.slice la ln lc, .slice ra rn rc] 109)
  have bq := Bk.new w (.cells #[.slice la ln lc, .slice ra rn rc] 109)
  have HA : Hid (∀ (p : Nat), p ≤ 1000 → ∀ w', Below w.heap.size w w' → Calls Tryz.prog 77 #[.agg #[.slice la ln lc, .slice ra rn rc], .int .i64 p] w' fun e w'' => e = .returned (.tuple #[vV (ptP l r p).1, .bool (ptP l r p).2]) ∧ Below w'.heap.size w' w'') := hid fun p hp w' hb => pairAt_any (h1.keep (by decide) fun b _ hl => hb.block b hl) (h2.keep (by decide) fun b _ hl => hb.block b hl) h5 p hp
  have HC : Hid (∀ x y : Vt, ∀ w', Calls Tryz.prog 41 #[vV x, vV y] w' fun e w'' => e = .returned (.int .i64 (cmpVt x y)) ∧ Below w'.heap.size w' w'') := hid fun x y w' => compare_any x.1 x.2.1 x.2.2 y.1 y.2.1 y.2.2 w'
  obtain ⟨T, hT⟩ : ∃ T, akP l r a b = T := ⟨_, rfl⟩
  have HT : Hid _ := hid hT
  rw [hT]
  have HA1 : Hid _ := hid (HA.out a ha)
  have HA2 : Hid _ := hid (HA.out b hb)
  unfold akP at HT
  generalize ptP l r a = A at *
  generalize ptP l r b = B at *
  obtain ⟨⟨x0, x1, x2⟩, ax⟩ := A
  obtain ⟨⟨y0, y1, y2⟩, ay⟩ := B
  dsimp only at HA1 HA2 HT
  obtain ⟨q, hq⟩ : ∃ q, w.heap.size = q := ⟨_, rfl⟩
  obtain ⟨d0, d1⟩ : (w.alloc (.cells #[.slice la ln lc, .slice ra rn rc] 109)).cell? ⟨w.heap.size, 0, none⟩ = some (.slice la ln lc) ∧ (w.alloc (.cells #[.slice la ln lc, .slice ra rn rc] 109)).cell? ⟨w.heap.size, 1, none⟩ = some (.slice ra rn rc) := ⟨bq.cell 0, bq.cell 1⟩
  rw [hq] at d0 d1
  clear h1 h2 bq hT HA
  go_enter Tryz.func49, Tryz.ntmps49
  go_upto_region 1 with fail
  (try rw [hq])
  generalize w.alloc (.cells #[.slice la ln lc, .slice ra rn rc] 109) = W at *
  go_wp2_with fail
  refine Calls.mono (HA1.out W hw) ?_
  rintro e w1 ⟨rfl, hb1⟩
  have hB1 := Below.on hw hb1
  have bx := Bk.new w1 (.cells #[.int .i64 x0, .int .i64 x1, .string x2] 39)
  have hB2 := bal hB1 (.cells #[.int .i64 x0, .int .i64 x1, .string x2] 39)
  have hb2 := bal hb1 (.cells #[.int .i64 x0, .int .i64 x1, .string x2] 39)
  replace d0 := cell_later hb2 d0
  replace d1 := cell_later hb2 d1
  obtain ⟨qx, hqx⟩ : ∃ qx, w1.heap.size = qx := ⟨_, rfl⟩
  rw [hqx] at bx
  clear HA1 hb1 hB1
  go_upto_region 2 with fail
  (try rw [hqx])
  clear hqx
  generalize w1.alloc (.cells #[.int .i64 x0, .int .i64 x1, .string x2] 39) = W2 at *
  go_wp2_with fail
  refine Calls.mono (HA2.out W2 hB2) ?_
  rintro e w3 ⟨rfl, hb3⟩
  have bx3 := (bx.later hb3).later (bal (Below.refl _ w3) (.cells #[.int .i64 y0, .int .i64 y1, .string y2] 39))
  have byy := Bk.new w3 (.cells #[.int .i64 y0, .int .i64 y1, .string y2] 39)
  have hB4 := bal (Below.on hB2 hb3) (.cells #[.int .i64 y0, .int .i64 y1, .string y2] 39)
  obtain ⟨qy, hqy⟩ : ∃ qy, w3.heap.size = qy := ⟨_, rfl⟩
  rw [hqy] at byy
  clear HA2 hb2 hB2 hb3 bx d0 d1
  go_upto_region 3 with fail
  (try rw [hqy])
  clear hqy
  generalize w3.alloc (.cells #[.int .i64 y0, .int .i64 y1, .string y2] 39) = W4 at *
  obtain ⟨p0, p1, p2⟩ := (⟨bx3.row⟩ : Bv W4 qx x0 x1 x2).cells
  obtain ⟨s0, s1, s2⟩ := (⟨byy.row⟩ : Bv W4 qy y0 y1 y2).cells
  cases ax with
  | false =>
    have HF : Hid (T = false) := hid (by rw [← HT.out]; rfl)
    clear HT HC bx3 byy
    go_wp2
    go_ret
    exact ⟨ret_bool HF.out.symm, by first | exact hB4 | exact hq ▸ hB4⟩
  | true =>
    cases ay with
    | false =>
      have HF : Hid (T = false) := hid (by rw [← HT.out]; rfl)
      clear HT HC bx3 byy
      go_wp2
      go_ret
      exact ⟨ret_bool HF.out.symm, by first | exact hB4 | exact hq ▸ hB4⟩
    | true =>
      have HF : Hid (T = decide (cmpVt (x0, x1, x2) (y0, y1, y2) = 0)) := hid (by rw [← HT.out]; rfl)
      have HC2 : Hid _ := hid (HC.out (x0, x1, x2) (y0, y1, y2))
      generalize cmpVt (x0, x1, x2) (y0, y1, y2) = C at *
      clear HT HC bx3 byy
      go_wp2_with fail
      refine Calls.mono (HC2.out _) ?_
      rintro e w5 ⟨rfl, hb5⟩
      have hB5 := Below.on hB4 hb5
      clear HC2 hb5 p0 p1 p2 s0 s1 s2
      by_cases h0 : C = 0
      · subst h0
        have HG : Hid (T = true) := hid HF.out
        clear HF
        go_wp2
        go_ret
        exact ⟨ret_bool HG.out.symm, by first | exact hB5 | exact hq ▸ hB5⟩
      · have k0 : decide (C = 0) = false := by simpa using h0
        have l0 : (C == 0) = false := by simpa using h0
        have HG : Hid (T = false) := hid (by rw [HF.out]; exact k0)
        clear HF
        go_wp2
        go_ret
        exact ⟨ret_bool HG.out.symm, by first | exact hB5 | exact hq ▸ hB5⟩
theorem pair_rows {w : World} {b : Nat} {la ra : Option Addr} {ln lc rn rc : Nat} {l r : List Vt} (h : Bk w b (.cells #[.slice la ln lc, .slice ra rn rc] 48)) (h1 : RowIs eVal (fun _ => True) w (.slice la ln lc) l) (h2 : RowIs eVal (fun _ => True) w (.slice ra rn rc) r) : RowIs eRow (fun _ => True) w (.slice (some ⟨b, 0, none⟩) 2 2) [l, r] :=
  ⟨_, 2, 2, rfl, rfl, Nat.le_refl _, by decide, fun _ => ⟨b, 0, rfl, trivial, fun i hi => by
    match i, hi with
    | 0, _ => exact ⟨[.slice la ln lc], ⟨_, _, _, rfl, h1⟩, rfl, fun j hj => by
        match j, hj with
        | 0, _ => exact h.cell 0⟩
    | 1, _ => exact ⟨[.slice ra rn rc], ⟨_, _, _, rfl, h2⟩, rfl, fun j hj => by
        match j, hj with
        | 0, _ => exact h.cell 1⟩⟩⟩
set_option maxRecDepth 100000 in
set_option maxHeartbeats 4000000 in
theorem wholeP_any {l r : List Vt} {Q1 Q2 : Nat → Prop} {w : World} {la : Option Addr} {ln lc : Nat} {ra : Option Addr} {rn rc : Nat} (h1 : RowIs eVal Q1 w (.slice la ln lc) l) (h2 : RowIs eVal Q2 w (.slice ra rn rc) r) (h0 : 0 < (l ++ r).length) (h5 : (l ++ r).length ≤ 1000) :
    Calls Tryz.prog 50 #[.agg #[.slice la ln lc, .slice ra rn rc]] w fun e w' => ∃ a' m' c', e = .returned (.slice a' m' c') ∧ OwnR 39 3 w.heap.size w' (.slice a' m' c') ((l ++ r).map cVs) ∧ Below w.heap.size w w' := by
  have hw := bal (bal (Below.refl w.heap.size w) (.cells #[.slice la ln lc, .slice ra rn rc] 109)) (.cells #[.slice la ln lc, .slice ra rn rc] 48)
  have bq := (Bk.new w (.cells #[.slice la ln lc, .slice ra rn rc] 109)).later (bal (Below.refl _ _) (.cells #[.slice la ln lc, .slice ra rn rc] 48))
  have b2 := Bk.new (w.alloc (.cells #[.slice la ln lc, .slice ra rn rc] 109)) (.cells #[.slice la ln lc, .slice ra rn rc] 48)
  rw [World.size_alloc] at b2
  have HC : Hid _ := hid (concat_any (M := [l, r]) (by simpa using h0) (by simpa using h5) (pair_rows b2 ((h1.mono (by decide) fun _ _ _ => trivial).keep (by decide) fun b _ hl => hw.block b hl) ((h2.mono (by decide) fun _ _ _ => trivial).keep (by decide) fun b _ hl => hw.block b hl)))
  have he : [l, r].flatten = l ++ r := by simp
  rw [he] at HC
  obtain ⟨CM, hCM⟩ : ∃ CM, (l ++ r).map cVs = CM := ⟨_, rfl⟩
  rw [hCM] at HC ⊢
  obtain ⟨d0, d1⟩ : (w.alloc (.cells #[.slice la ln lc, .slice ra rn rc] 109)).cell? ⟨w.heap.size, 0, none⟩ = some (.slice la ln lc) ∧ (w.alloc (.cells #[.slice la ln lc, .slice ra rn rc] 109)).cell? ⟨w.heap.size, 1, none⟩ = some (.slice ra rn rc) := ⟨(Bk.new w (.cells #[.slice la ln lc, .slice ra rn rc] 109)).cell 0, (Bk.new w (.cells #[.slice la ln lc, .slice ra rn rc] 109)).cell 1⟩
  clear h1 h2 bq b2 he hCM
  go_enter Tryz.func50, Tryz.ntmps50
  go_wp2_with fail
  with_reducible refine Calls.mono HC.out ?_
  rintro e w3 ⟨a', m', c', rfl, hO, hb3⟩
  have hB3 := Below.on hw hb3
  have HO : Hid _ := hid (hO.base hw.size)
  clear HC hO hb3
  go_wp2
  go_ret
  exact ⟨_, _, _, rfl, HO.out, hB3⟩

end Go.Proofs.YtnlaaejdianfjabGreat
namespace Go.Proofs.YtnlaaejdianfjabGreat
open Go.RowKit Go.Shelf
set_option linter.unusedVariables false
set_option linter.unusedSimpArgs false
attribute [local go_sem] Oper.semAt_some

/-- The pairs of rows with alike values at both places, in order. -/
def prsP (L R : List (List Vt)) (a b : Nat) : List (List Vt) := L.flatMap fun l => (R.filter fun r => akP l r a b).map fun r => l ++ r
theorem prs_snoc {L R : List (List Vt)} {a b k : Nat} (hk : k < L.length) : prsP (L.take (k + 1)) R a b = prsP (L.take k) R a b ++ (R.filter fun r => akP L[k] r a b).map fun r => L[k] ++ r := by
  unfold prsP
  rw [List.take_succ_eq_append_getElem hk, List.flatMap_append]
  simp
theorem prs_at {L R : List (List Vt)} {a b k j : Nat} (hk : k < L.length) (hj : j < R.length) (h : akP L[k] R[j] a b = true) : (prsP L R a b)[(prsP (L.take k) R a b).length + ((R.take j).filter fun r => akP L[k] r a b).length]? = some (L[k] ++ R[j]) := by
  have e1 : prsP L R a b = prsP (L.take k) R a b ++ ((R.filter fun r => akP L[k] r a b).map (fun r => L[k] ++ r) ++ prsP (L.drop (k + 1)) R a b) := by
    rw [← List.append_assoc, ← prs_snoc hk]
    unfold prsP
    rw [← List.flatMap_append, List.take_append_drop]
  have e2 : (R.filter fun r => akP L[k] r a b) = ((R.take j).filter fun r => akP L[k] r a b) ++ R[j] :: ((R.drop (j + 1)).filter fun r => akP L[k] r a b) := by
    conv => lhs; rw [← List.take_append_drop j R, List.drop_eq_getElem_cons hj]
    rw [List.filter_append, List.filter_cons, if_pos h]
  rw [e1, List.getElem?_append_right (by omega), Nat.add_sub_cancel_left, List.getElem?_append_left (by rw [List.length_map, e2, List.length_append]; simp), e2, List.map_append, List.getElem?_append_right (by rw [List.length_map]; exact Nat.le_refl _), List.length_map, Nat.sub_self]
  rfl
theorem fil_snoc {R : List (List Vt)} {p : List Vt → Bool} {j : Nat} (hj : j < R.length) : ((R.take (j + 1)).filter p).length = ((R.take j).filter p).length + if p R[j] then 1 else 0 := by
  rw [List.take_succ_eq_append_getElem hj, List.filter_append, List.length_append]
  cases h : p R[j] <;> simp [h]
set_option maxRecDepth 100000 in
set_option maxHeartbeats 8000000 in
theorem joined1_any {w0 : World} {B1 B2 B3 B4 : Nat} {la : Option Addr} {ln lc : Nat} {ra : Option Addr} {rn rc : Nat} {L R : List (List Vt)} {a b : Nat} (ha : a ≤ 1000) (hb : b ≤ 1000) {Q1 Q2 : Nat → Prop}
    (c1 : w0.cell? ⟨B1, 0, none⟩ = some (.slice la ln lc)) (c2 : w0.cell? ⟨B2, 0, none⟩ = some (.slice ra rn rc)) (c3 : w0.cell? ⟨B3, 0, none⟩ = some (.int .i64 a)) (c4 : w0.cell? ⟨B4, 0, none⟩ = some (.int .i64 b))
    (hL : RowIs eRow Q1 w0 (.slice la ln lc) L) (hR : RowIs eRow Q2 w0 (.slice ra rn rc) R) (h5L : ∀ l ∈ L, 0 < l.length ∧ l.length ≤ 500) (h5R : ∀ r ∈ R, r.length ≤ 500) :
    SeqW Tryz.prog 48 #[.pointer (some ⟨B1, 0, none⟩), .pointer (some ⟨B2, 0, none⟩), .pointer (some ⟨B3, 0, none⟩), .pointer (some ⟨B4, 0, none⟩)] (prsP L R a b).length (A1 w0.heap.size (prsP L R a b)) w0 := by
  intro l J Jx W hW hY h0
  obtain ⟨l1, l2, l3⟩ := row_lens hL
  obtain ⟨r1, r2, r3⟩ := row_lens hR
  have rows : ∀ {v : Value} {M : List (List Vt)} {Q : Nat → Prop} {ma : Option Addr} {mn mc : Nat}, RowIs eRow Q w0 (.slice ma mn mc) M → ∀ w', Below w0.heap.size w0 w' → ∀ i (h : i < M.length), ∃ b o a' n' c', ma = some ⟨b, o, none⟩ ∧ w'.cell? ⟨b, o + i, none⟩ = some (.slice a' n' c') ∧ ∀ w2, Below w0.heap.size w0 w2 → RowIs eVal (fun b => b < w0.heap.size) w2 (.slice a' n' c') M[i] := fun h w' hb i hi => by
    obtain ⟨b, o, xa, xn, xc, e1, h2, h3, h4⟩ := row1 h (k := i) hi
    refine ⟨b, o, xa, xn, xc, e1, cell_later hb h3, fun w2 hb2 => ?_⟩
    exact ((h4.mono (by decide) (Q' := fun b => b < w0.heap.size) fun b _ hl => hl).keep (by decide) fun b _ hl => hb2.block b hl)
  have HL : Hid _ := hid (rows (v := .bool true) hL)
  have HR : Hid _ := hid (rows (v := .bool true) hR)
  have HC : Hid (∀ w', Below w0.heap.size w0 w' → w'.cell? ⟨B1, 0, none⟩ = some (.slice la ln lc) ∧ w'.cell? ⟨B2, 0, none⟩ = some (.slice ra rn rc) ∧ w'.cell? ⟨B3, 0, none⟩ = some (.int .i64 a) ∧ w'.cell? ⟨B4, 0, none⟩ = some (.int .i64 b)) := hid fun w' hb => ⟨cell_later hb c1, cell_later hb c2, cell_later hb c3, cell_later hb c4⟩
  obtain ⟨N, hN⟩ : ∃ N, (prsP L R a b).length = N := ⟨_, rfl⟩
  have HNN : Hid ((prsP L R a b).length = N) := hid hN
  have HJ0 : Hid (J (prsP (L.take 0) R a b).length W) := hid h0
  have HG0 : Hid (Gr W.heap.size W W) := hid (Gr.refl _ _)
  have H5L : Hid _ := hid h5L
  have H5R : Hid _ := hid h5R
  have HlL : Hid (L.length = ln) := hid l1
  have HlR : Hid (R.length = rn) := hid r1
  have d1 := (HC.out W hW).1
  rw [hN] at hY ⊢
  have HY : Hid _ := hid hY
  clear hY hL hR h5L h5R rows l1 r1 h0 c1 c2 c3 c4 hN
  refine (callsIn_wide (n := 0)).1 (callsIn_of_wp Tryz.func48 rfl trivial ?_)
  simp only [Tryz.ntmps48, List.size_toArray, List.length_cons, List.length_nil, Nat.reduceAdd, Nat.reduceSub, Array.replicate_succ, Array.replicate_zero, List.push_toArray, List.append_toArray, List.nil_append, List.cons_append]
  gi_wp2
  gi_loopw [13] (fun i wr => ∃ (k : Nat) (W1 : World), k ≤ ln ∧ i = .int .i64 k ∧ Hid (J (prsP (L.take k) R a b).length W1) ∧ Hid (Gr W.heap.size W1 wr) ∧ Below w0.heap.size w0 wr) (fun i _ => ln - (intOf i).toNat)
  case atStart => exact ⟨0, W, Nat.zero_le _, rfl, HJ0, HG0, hW⟩
  case round =>
    obtain ⟨k, W1, hk, rfl, HJ, HG, hB⟩ := hrel
    clear HJ0 HG0 d1
    generalize wr = wo at *
    by_cases hlt : k < ln
    · have hkL : k < L.length := by rw [HlL.out]; exact hlt
      obtain ⟨b9, o9, xa, xn, xc, rfl, x0, rx⟩ := HL.out wo hB k hkL
      have HPs : Hid (prsP (L.take (k + 1)) R a b = prsP (L.take k) R a b ++ (R.filter fun r => akP L[k] r a b).map fun r => L[k] ++ r) := hid (prs_snoc hkL)
      have HAt : Hid (∀ j (hj : j < R.length), akP L[k] R[j] a b = true → (prsP L R a b)[(prsP (L.take k) R a b).length + ((R.take j).filter fun r => akP L[k] r a b).length]? = some (L[k] ++ R[j])) := hid fun j hj h => prs_at hkL hj h
      have h5x := H5L.out _ (List.getElem_mem hkL)
      obtain ⟨x, hx⟩ : ∃ x, L[k] = x := ⟨_, rfl⟩
      rw [hx] at rx HPs HAt h5x
      obtain ⟨T, hT⟩ : ∃ T, (prsP (L.take k) R a b).length = T := ⟨_, rfl⟩
      rw [hT] at HJ HAt
      have HT : Hid _ := hid hT
      have HX : Hid _ := hid rx
      have HJ1 : Hid (J (T + ((R.take 0).filter fun r => akP x r a b).length) W1) := HJ
      have hkm : (k : Int) < (ln : Int) := by omega
      have hwk := wrapS hlt l2 l3
      obtain ⟨d1, d2, d3, d4⟩ := HC.out wo hB
      clear rx hx hT HJ
      gi_wp2
      gi_loopw [19] (fun i wr => ∃ (j : Nat) (W1 : World), j ≤ rn ∧ i = .int .i64 j ∧ Hid (J (T + ((R.take j).filter fun r => akP x r a b).length) W1) ∧ Hid (Gr W.heap.size W1 wr) ∧ Below w0.heap.size w0 wr) (fun i _ => rn - (intOf i).toNat)
      case atStart => exact ⟨0, W1, Nat.zero_le _, rfl, HJ1, HG, hB⟩
      case round =>
        obtain ⟨j, W2, hj, rfl, HJ, HG2, hB2⟩ := hrel
        clear HJ1 HG x0 d1 d2 d3 d4
        by_cases hjt : j < rn
        · have hjR : j < R.length := by rw [HlR.out]; exact hjt
          obtain ⟨b8, o8, ya, yn, yc, rfl, y0, ry⟩ := HR.out wr hB2 j hjR
          have h5y := H5R.out _ (List.getElem_mem hjR)
          have HAj := HAt.out j hjR
          have HFj : Hid _ := hid (fil_snoc (p := fun r => akP x r a b) hjR)
          obtain ⟨y, hy⟩ : ∃ y, R[j] = y := ⟨_, rfl⟩
          rw [hy] at ry HAj h5y HFj
          have hw3 := bal (Below.refl wr.heap.size wr) (.cells #[.slice xa xn xc, .slice ya yn yc] 109)
          have hB3 := Below.on hB2 hw3
          have bP := Bk.new wr (.cells #[.slice xa xn xc, .slice ya yn yc] 109)
          obtain ⟨p0, p1⟩ : (wr.alloc (.cells #[.slice xa xn xc, .slice ya yn yc] 109)).cell? ⟨wr.heap.size, 0, none⟩ = some (.slice xa xn xc) ∧ (wr.alloc (.cells #[.slice xa xn xc, .slice ya yn yc] 109)).cell? ⟨wr.heap.size, 1, none⟩ = some (.slice ya yn yc) := ⟨bP.cell 0, bP.cell 1⟩
          obtain ⟨-, d2, d3, d4⟩ := HC.out _ hB3
          have HAl : Hid _ := hid (alikeP_any (HX.out _ hB3) (ry _ hB3) h5x.2 a b ha hb)
          have hkm2 : (j : Int) < (rn : Int) := by omega
          have hwk2 := wrapS hjt r2 r3
          have HRy : Hid _ := hid ry
          have HAj2 : Hid _ := hid HAj
          clear ry hy bP HAj
          gi_wp2_with fail
          refine ⟨trivial, rfl, (callsIn_wide.2 HAl.out).mono ?_⟩
          rintro e W4 ⟨rfl, hb4⟩
          have hB4 := Below.on hB3 hb4
          have hw4 := Below.on hw3 hb4
          replace p0 := cell_later hb4 p0
          replace p1 := cell_later hb4 p1
          clear HAl hb4 y0 d2 d3 d4
          cases hak : akP x y a b with
          | false =>
            have HJ5 : Hid (J (T + ((R.take (j + 1)).filter fun r => akP x r a b).length) W2) := hid (by rw [HFj.out, hak]; exact HJ.out)
            have HG5 : Hid (Gr W.heap.size W2 W4) := hid (HG2.out.trans (Gr.of_below hw4))
            clear HFj HAj2 HRy HJ HG2 p0 p1 hw3 hw4 hB3 hak
            gi_wp2
            refine ⟨trivial, ?_⟩
            gi_wp2
            refine ⟨fun _ h => (by cases h), ?_⟩
            gi_wp2
            go_roundw
            case rel => exact ⟨j + 1, W2, hjt, by go_num, HJ5, HG5, hB4⟩
            case measure => simp only [intOf]; omega
          | true =>
            have hxy : 0 < (x ++ y).length ∧ (x ++ y).length ≤ 1000 := by rw [List.length_append]; omega
            have HWh : Hid _ := hid (wholeP_any (HX.out _ hB4) (HRy.out _ hB4) hxy.1 hxy.2)
            have HJc : Hid (((R.take (j + 1)).filter fun r => akP x r a b).length = ((R.take j).filter fun r => akP x r a b).length + 1) := hid (by rw [HFj.out, hak]; rfl)
            have HAt2 := HAj2.out hak
            obtain ⟨f, hf⟩ : ∃ f, ((R.take j).filter fun r => akP x r a b).length = f := ⟨_, rfl⟩
            rw [hf] at HAt2 HJc HJ
            have HAt3 : Hid _ := hid HAt2
            clear HFj HAj2 HRy hxy hak HAt2 hf
            gi_wp2_with fail
            refine ⟨trivial, rfl, (callsIn_wide.2 HWh.out).mono ?_⟩
            rintro e W5 ⟨a', m', c', rfl, hO, hb5⟩
            have hB5 := Below.on hB4 hb5
            have hrow : RowIs eVal (fun b => W4.heap.size ≤ b) W5 (.slice a' m' c') (x ++ y) := OwnR.rowE (e := eVal) hO (by simp) (fun b h1 _ => h1) fun i h1 h2 => by
              show _ = _
              rw [List.getElem_map]
            have hG5 : Gr W.heap.size W2 W5 := HG2.out.trans (Gr.of_below (Below.on hw4 hb5))
            have hsz : W2.heap.size ≤ W4.heap.size := Nat.le_trans HG2.out.size hw4.size
            have hcnt : T + f < N := by rw [← HNN.out]; exact (List.getElem?_eq_some_iff.1 HAt3.out).1
            obtain ⟨fn, tmps, assign, body, hy, hR9⟩ := HY.out (T + f) W2 W5 #[.slice a' m' c'] hcnt HJ.out hB5 hG5 ⟨a', m', c', x ++ y, rfl, HAt3.out, hrow.mono (by decide) fun b hq _ => .inr (Nat.le_trans hsz hq)⟩
            have HR9 : Hid _ := hid hR9
            clear HWh hO hb5 hrow hG5 hR9 HJ HG2 p0 p1 hw3 hw4 hB3 hB4 HAt3
            gi_wp2
            refine ⟨rfl, HR9.out.mono ?_⟩
            rintro e' W6 ⟨hk6, ⟨rfl, hJ6⟩ | ⟨rfl, hJx6⟩⟩
            · have hB6 := hB5.trans hk6.low
              have HJ6 : Hid (J (T + ((R.take (j + 1)).filter fun r => akP x r a b).length) W6) := hid (by rw [HJc.out]; exact hJ6)
              clear hJ6 hk6 HR9
              gi_wp2
              go_roundw
              case rel => exact ⟨j + 1, W6, hjt, by go_num, HJ6, hid (Gr.refl _ _), hB6⟩
              case measure => simp only [intOf]; omega
            · have hB6 := hB5.trans hk6.low
              have HJ6 : Hid _ := hid hJx6
              clear hJx6 hk6 HR9
              gi_wp2
              refine bodyPost_ret (results_none rfl _ _ _) rfl ?_
              exact ⟨⟨_, rfl⟩, hB6, W6, Gr.refl _ _, .inr ⟨T + f + 1, by omega, HJ6.out⟩⟩
        · obtain rfl : j = rn := by omega
          have HJ7 : Hid (J (prsP (L.take (k + 1)) R a b).length W2) := hid (by
            have h := HJ.out
            rw [List.take_of_length_le (Nat.le_of_eq HlR.out)] at h
            rw [HPs.out, List.length_append, List.length_map, HT.out]
            exact h)
          have hkm2 : ¬ (j : Int) < (j : Int) := by omega
          clear HJ HPs HAt
          gi_wp2
          go_roundw
          case rel => exact ⟨k + 1, W2, hlt, by go_num, HJ7, HG2, hB2⟩
          case measure => simp only [intOf]; omega
    · obtain rfl : k = ln := by omega
      have HJ8 : Hid (J N W1) := hid (by
        have h := HJ.out
        rw [List.take_of_length_le (Nat.le_of_eq HlL.out), HNN.out] at h
        exact h)
      have hkm : ¬ (k : Int) < (k : Int) := by omega
      clear HJ
      gi_wp2
      go_end0
      exact ⟨⟨_, rfl⟩, hB, W1, HG.out, .inl HJ8.out⟩

end Go.Proofs.YtnlaaejdianfjabGreat
