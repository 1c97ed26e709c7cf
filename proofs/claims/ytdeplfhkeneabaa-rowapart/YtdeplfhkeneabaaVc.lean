/- The walk of the document's Key. -/
import Derived.Test.YtdeplfhkeneabaaV8
import Derived.Deep.RegionHeld3
namespace Go.Proofs.Ytdeplfhkeneabaa
open Go.RowKit
set_option linter.unusedVariables false

/-- The document's bytes of a number are the same. -/
theorem ref_byte {n : Int} (hf : Fits n) {j : Nat} (h0 : 0 < j) (hj : j < 8) : IntKind.u64.wrap n / 2 ^ (8 * (7 - j)) % 256 = ((turn n / 256 ^ (7 - j) % 256 : Nat) : Int) := by
  have e : IntKind.u64.wrap n = (turn n : Int) + (if n < 0 then 9223372036854775808 else -9223372036854775808) := by
    rw [turn_cast hf, IntKind.wrap_u64]
    unfold Fits at hf
    split <;> omega
  rw [e]
  have hlt := turn_lt hf
  have hge : n < 0 ∨ 9223372036854775808 ≤ turn n := by unfold turn Fits at *; omega
  have hge' : ¬ n < 0 ∨ turn n < 9223372036854775808 := by unfold turn Fits at *; omega
  generalize turn n = u at *
  rcases (by omega : j = 1 ∨ j = 2 ∨ j = 3 ∨ j = 4 ∨ j = 5 ∨ j = 6 ∨ j = 7) with rfl | rfl | rfl | rfl | rfl | rfl | rfl <;> simp only [Nat.reduceMul, Nat.reduceSub, Nat.reducePow, Int.reducePow] <;> split <;> omega
theorem ref_byte' {n : Int} (hf : Fits n) {j : Nat} (h0 : 0 < j) (hj : j < 8) : (IntKind.u64.wrap n / 2 ^ (8 * (7 - j))).tmod 256 % 256 = ((turn n / 256 ^ (7 - j) % 256 : Nat) : Int) := by
  have hnn : 0 ≤ IntKind.u64.wrap n / 2 ^ (8 * (7 - j)) := Int.ediv_nonneg (by rw [IntKind.wrap_u64]; omega) (Int.le_of_lt (Int.pow_pos (by omega)))
  rw [Int.tmod_eq_emod_of_nonneg hnn, Int.emod_emod, ref_byte hf h0 hj]
theorem ref_first {n : Int} (hf : Fits n) : bits BinOp.xor IntKind.u8 ((IntKind.u64.wrap n / 72057594037927936).tmod 256 % 256) 128 = ((turn n / 256 ^ 7 % 256 : Nat) : Int) := by
  obtain ⟨x, hx⟩ : ∃ x : Nat, IntKind.u64.wrap n / 72057594037927936 = (x : Int) := ⟨(IntKind.u64.wrap n / 72057594037927936).toNat, by rw [IntKind.wrap_u64]; omega⟩
  have hx256 : x < 256 := by rw [IntKind.wrap_u64] at hx; omega
  have ht : turn n / 256 ^ 7 % 256 = if x < 128 then 128 + x else x - 128 := by
    rw [IntKind.wrap_u64] at hx
    unfold turn Fits at *
    simp only [Nat.reducePow]
    split <;> omega
  rw [hx, Int.tmod_eq_emod_of_nonneg (by omega), show (x : Int) % 256 % 256 = (x : Int) from by omega, show (128 : Int) = ((128 : Nat) : Int) from rfl, u8_xor_nat x 128 hx256 (by omega), ht]
  split
  · rename_i h
    rw [show (128 : Nat) = 2 ^ 7 from rfl, xor_pow (by omega)]
  · rename_i h
    obtain ⟨y, rfl⟩ : ∃ y, x = 2 ^ 7 + y := ⟨x - 128, by omega⟩
    rw [show (128 : Nat) = 2 ^ 7 from rfl, xor_pow' (by omega)]
    omega

/-- An append, and where its row lies: what lay beside stays. -/
theorem run_app_at (w : World) (B : Nat) (tx ty : TypeId) (v x : Value) (l m : List Int) (hown : Own B w v l) (hs : SrcB w tx x m) (hlm : l.length + m.length ≤ 100000) (hB : B ≤ w.heap.size) :
    ∃ v' w', (Builtin.append_ #[23, tx] ty #[v, x]).run Try.prog w = .ok v' w' ∧ Own B w' v' (l ++ m) ∧ w.grownBy w' v.ownBlock ∧ (v'.ownBlock = v.ownBlock ∨ v'.ownBlock = some w.heap.size) := by
  obtain ⟨i, hi, hz, hsz, hby⟩ := info_parts Try.info5
  have ht := Try.underlying23
  obtain ⟨ll, L, hLl⟩ : ∃ n : Nat, ∃ L : List Value, l.length = n ∧ l.map (Value.int .u8) = L := ⟨_, _, rfl, rfl⟩
  obtain ⟨hL1, hL2⟩ := hLl
  unfold Own at hown ⊢
  unfold SrcB at hs
  have hlen : (l ++ m).map (Value.int .u8) = L ++ m.map (Value.int .u8) := by rw [← hL2, List.map_append]
  have hll : (l ++ m).length = ll + m.length := by rw [← hL1, List.length_append]
  rw [hlen, hll]
  rw [hL1, hL2] at hown
  have hLlen : L.length = ll := by rw [← hL2, ← hL1, List.length_map]
  have grown : ∀ (old : Nat), old < ll + m.length → ∀ (row : Option Nat),
      (w.drew.alloc (.cells ((L ++ m.map (Value.int .u8)).toArray ++ Builtin.zeroCells (Value.int .u8 0).cells (grownCap w (ll + m.length) old 5 - (ll + m.length))) 5)).ownsRow B 5 1
        (.slice (some ⟨w.heap.size, 0, none⟩) (ll + m.length) (grownCap w (ll + m.length) old 5)) (ll + m.length) (L ++ m.map (Value.int .u8)) ∧
      w.grownBy (w.drew.alloc (.cells ((L ++ m.map (Value.int .u8)).toArray ++ Builtin.zeroCells (Value.int .u8 0).cells (grownCap w (ll + m.length) old 5 - (ll + m.length))) 5)) row := by
    intro old ho row
    have hge := grownCap_ge w (ll + m.length) old 5
    have hcm : grownCap w (ll + m.length) old 5 ≤ maxLen := grownCap_le_maxLen w (ll + m.length) old 5 (by unfold maxLen; omega)
    refine ⟨⟨by simp [hLlen], .inr ⟨w.heap.size, _, _, rfl, hB, heap_alloc_new w.drew _, hge, hcm, ?_, ?_⟩⟩, ⟨rfl, rfl, rfl, by simp, fun k hk _ => Below.heap_alloc w.drew _ k hk⟩⟩
    · simp only [Array.size_append, List.size_toArray, size_zeroCells, List.length_append, List.length_map, hLlen]
      simp [Value.cells]
      omega
    · simp only [Array.toList_append]
      have : (ll + m.length) * 1 = (L ++ m.map (Value.int .u8)).length := by simp [hLlen]
      rw [this]
      exact List.take_left
  have h48 : ∀ cap, cap < ll + m.length → Builtin.nextslicecap (ll + m.length) cap * i.bytes ≤ 281474976710656 := fun cap hc => growslice_fits hc (by rw [hby]; omega)
  have hs' : Src Try.prog i.size tx x m.length (m.map (Value.int .u8)) w := by rw [hsz]; exact hs
  rcases hown.2 with ⟨rfl, h0⟩ | ⟨g, cap, cur, rfl, hbg, hg, hnc, hcm, hcs, htake⟩
  · subst h0
    obtain rfl : L = [] := List.eq_nil_of_length_eq_zero hLlen
    by_cases hm : m = []
    · subst hm
      refine ⟨.slice none 0 0, w, ?_, World.ownsRow_nil w B 5 1, ⟨rfl, rfl, rfl, Nat.le_refl _, fun _ _ _ => rfl⟩, .inl rfl⟩
      have hc : (Builtin.firstCells i.size 0 x).run Try.prog w = .ok #[] w := hs'.cells
      have hl0 : ∀ w' : World, (Builtin.lenOf x).run Try.prog w' = .ok 0 w' := hs'.len
      rcases hs'.kind with ⟨e', hk⟩ | hk <;> simp [Builtin.append_, run_underlying ht, run_underlying hk, sizeOf, typeInfo, hi, hl0, hc]
    · have hmp : 0 < m.length := List.length_pos_iff.2 hm
      have hr := run_append_grow_src w 23 tx ty 5 i (.int .u8 0) ht hi hz none 0 0 [] (by simp [Builtin.firstCells]) x m.length _ hs' (by omega) (by omega) (h48 0 (by omega))
      have hgr := grown 0 (by omega) (Value.ownBlock (.slice none 0 0))
      exact ⟨_, _, hr, hgr.1, hgr.2, .inr rfl⟩
  · by_cases hroom : ll + m.length ≤ cap
    · have hfit : ll * i.size + (m.map (Value.int .u8)).length ≤ cur.size := by rw [hsz, List.length_map]; omega
      have hst := run_storeCells_at Try.prog g (ll * i.size) 5 (m.map (Value.int .u8)) 0 cur w hg (by simpa using hfit) (ints_one _ _)
      simp only [Nat.add_zero] at hst
      have hr : (Builtin.append_ #[23, tx] ty #[.slice (some ⟨g, 0, none⟩) ll cap, x]).run Try.prog w = .ok (.slice (some ⟨g, 0, none⟩) (ll + m.length) cap) (w.setRow g (cur.toList.take (ll * i.size) ++ m.map (Value.int .u8) ++ cur.toList.drop (ll * i.size + (m.map (Value.int .u8)).length)).toArray) := by
        rcases hs'.kind with ⟨e', hk⟩ | hk <;> simp [Builtin.append_, run_underlying ht, run_underlying hk, sizeOf, typeInfo, hi, hs'.len, hroom, hs'.cells, Addr.add_lit, hst]
      rw [hsz] at hr hfit
      refine ⟨_, _, hr, ⟨by simp [hLlen], .inr ⟨g, cap, _, rfl, hbg, setRow_heap w g cur _ 5 _ hg, hroom, hcm, ?_, ?_⟩⟩, ⟨rfl, rfl, rfl, by simp, fun k _ hk => setRow_other w g k _ (fun e => hk (by simp [Value.ownBlock, e]))⟩, .inl rfl⟩
      · simp only [List.size_toArray, List.length_append, List.length_take, List.length_drop, Array.length_toList]
        omega
      · rw [htake]
        have : (ll + m.length) * 1 = (L ++ m.map (Value.int .u8)).length := by simp [hLlen]
        rw [this]
        exact List.take_left
    · have hold : (Builtin.firstCells i.size ll (.slice (some ⟨g, 0, none⟩) ll cap)).run Try.prog w.drew = .ok L.toArray w.drew := by
        have := hown.cells (g := g) rfl
        exact run_firstCells_some w.drew i.size ll ⟨g, 0, none⟩ ll cap L (by rw [hsz, hLlen]; omega) (by simpa using this)
      have hr := run_append_grow_src w 23 tx ty 5 i (.int .u8 0) ht hi hz (some ⟨g, 0, none⟩) ll cap L hold x m.length _ hs' (by omega) (by omega) (h48 cap (by omega))
      have hgr := grown cap (by omega) (Value.ownBlock (.slice (some ⟨g, 0, none⟩) ll cap))
      exact ⟨_, _, hr, hgr.1, hgr.2, .inr rfl⟩

/-- An append as one step of a region that draws its order: what lay beside the row stays, and lies beside the new one. -/
theorem step_app_at {ops : Array Oper} {o : Oper} {a : Act} {w : World} {K : Act → World → Prop} {Q : Exit → Act → World → Prop} {E : Prop}
    (hgd : o.guard = none) (s x : Operand) (tx : TypeId) (ho : o.op = Op.call { callee := Callee.builtin Builtin.append, args := #[s, x], argTypes := #[23, tx] })
    (B : Nat) (v xv : Value) (l m : List Int) (hs : a.eval s = v) (hx : a.eval x = xv) (hown : Own B w v l) (hsrc : SrcB w tx xv m) (hlm : l.length + m.length ≤ 100000) (hB : B ≤ w.heap.size)
    (h : ∀ v' w', Own B w' v' (l ++ m) → Below B w w' → (∀ g p u, w.cell? ⟨g, p, none⟩ = some u → some g ≠ v.ownBlock → w'.cell? ⟨g, p, none⟩ = some u ∧ some g ≠ v'.ownBlock) → K (a.put o.dst v') w') :
    if Region.wanted o (yielded ops a.tmps) = true then Oper.wp Try.prog o a w K Q else E := by
  have hw : Region.wanted o (yielded ops a.tmps) = true := by simp [Region.wanted, hgd]
  rw [if_pos hw]
  obtain ⟨v', w', hr, h2, h3, h4⟩ := run_app_at w B tx o.type v xv l m hown hsrc hlm hB
  unfold Oper.wp
  simp [execOp, ho, resolve, invoke, builtin, hs, hx, hr, Result.andThen]
  refine h v' w' h2 (hown.below hB h3) fun g p u hu hg => ?_
  have hlt : g < w.heap.size := World.block_lt_of_cell? _ _ hu
  refine ⟨by rw [← hu]; exact World.cell?_of_block (h3.block g hlt hg), ?_⟩
  rcases h4 with e | e
  · rw [e]; exact hg
  · rw [e]; simp; omega

theorem cut_of {A B C G : Prop} (f : A → B → C) (a : A) (b : B) (k : C → G) : G := k (f a b)

theorem Own.apart {B : Nat} {w : World} {v : Value} {l : List Int} (h : Own B w v l) {g : Nat} (hg : w.heap.size ≤ g) : some g ≠ v.ownBlock := fun e => by
  have := (World.ownsRow.lt h g e.symm).2
  omega

set_option maxRecDepth 100000 in
set_option maxHeartbeats 1000000 in
theorem refKey_rd (ao : Option Addr) (n c : Nat) (bs : List Int) (k i : Int) (s : ByteArray) (w : World) (h : Rd .u8 w ao n c bs) (hn : n ≤ 1000) (hs : s.size ≤ 1000) (hf : Fits i) (hk : k = 1 ∨ k = 2) :
    Calls Try.prog 25 #[.slice ao n c, .agg #[.int .i64 k, .int .i64 i, .string s]] w fun e w' => ∃ oo q, e = .returned (.slice oo (bs ++ keyL k i (nums s)).length q) ∧ Rd .u8 w' oo (bs ++ keyL k i (nums s)).length q (bs ++ keyL k i (nums s)) ∧ Below w.heap.size w w' := by
  have hlen := h.len
  subst hlen
  obtain ⟨c0, c1, c2⟩ := box3 w (.int .i64 k) (.int .i64 i) (.string s) 35
  have hb0 : Below w.heap.size w (w.alloc (.cells #[.int .i64 k, .int .i64 i, .string s] 35)) := (Below.refl _ _).alloc (Nat.le_refl _) _
  have hnl := nums_len s
  go_enter Try.func25, Try.ntmps25
  go_upto_region 1 with fail
  generalize w.alloc (.cells #[.int .i64 k, .int .i64 i, .string s] 35) = W at *
  replace h := h.later hb0
  have hB1 : Below W.heap.size W (W.alloc (.cells #[] 5)) := (Below.refl _ _).alloc (Nat.le_refl _) _
  have ho1 : Own W.heap.size (W.alloc (.cells #[] 5)) (.slice (some ⟨W.heap.size, 0, none⟩) 0 0) [] := World.ownsRow_made (size := 1) (e := 5) (base := W.heap.size) W #[] 0 (Nat.le_refl _) (Nat.zero_le _) rfl
  go_wp2_with (at_builtin; refine wpList_app rfl (.tmp 8) (.tmp 9) 23 rfl W.heap.size _ _ [] bs rfl rfl ho1 (SrcB.ofRd (h.later hB1)) (by simp; omega) hB1.size ?_)
  intro v2 w2 ho2 hb2 hn2
  replace ho2 : Own W.heap.size w2 v2 bs := ho2
  have hB2 : Below W.heap.size W w2 := hB1.trans hb2
  have d0 := cell_later hB2 c0
  have d1 := cell_later hB2 c1
  have d2 := cell_later hB2 c2
  clear ho1 hB1 hb2 hn2
  rcases hk with rfl | rfl
  · go_wp2_with (first | (at_builtin; refine wpList_app rfl (.tmp 17) (.tmp 18) 23 rfl W.heap.size _ _ bs [1] rfl rfl (ho2.alloc _) (SrcB.one w2 1) (by simp; omega) (by have := hB2.size; simp; omega) ?_) | fail)
    intro v3 w3 ho3 hb3 hn3
    have hB3 : Below W.heap.size W w3 := (hB2.alloc hB2.size _).trans hb3
    clear d0 d1 d2 ho2 hb3 hn3 hB2 c0 c1 c2
    go_wp2
    go_loopw [0, 6] (fun v' i' wr => ∃ j : Nat, j ≤ 8 ∧ i' = .int .i64 (7 - (j : Int)) ∧ (∃ out : List Int, Own W.heap.size wr v' out ∧ Hid (out = bs ++ [1] ++ (be 8 (turn i)).take j)) ∧ Below W.heap.size W wr) (fun _ i' _ => (intOf i' + 1).toNat)
    case atStart => exact ⟨0, by omega, rfl, ⟨_, ho3, by simp [Hid]⟩, hB3⟩
    case round =>
      obtain ⟨j, hj, rfl, ⟨out, ho, HE⟩, hb⟩ := hrel
      clear ho3 hB3
      by_cases hlt : j < 8
      · by_cases hj0 : j = 0
        · subst hj0
          have hx := ref_first hf
          have HE2 : Hid (out ++ [((turn i / 256 ^ (7 - 0) % 256 : Nat) : Int)] = bs ++ [1] ++ (be 8 (turn i)).take (0 + 1)) := by rw [Hid, be_take (by omega), HE.out, List.append_assoc (bs ++ [1])]
          have hol : out.length ≤ 2008 := by rw [HE.out, List.length_append, List.length_take, be_len]; simp; omega
          clear HE
          go_wp2_with (first | (at_builtin; refine wpList_app rfl (.tmp 34) (.tmp 36) 23 rfl W.heap.size _ _ out [_] rfl rfl (ho.alloc _) (SrcB.one wr _) (by simp; omega) (by have := hb.size; simp; omega) ?_) | fail)
          intro v4 w4 ho4 hb4 hn4
          have hb5 : Below W.heap.size W w4 := (hb.alloc hb.size _).trans hb4
          replace ho4 : Own W.heap.size w4 v4 (out ++ [((turn i / 256 ^ (7 - 0) % 256 : Nat) : Int)]) := by
            first | exact ho4 | (rw [hx] at ho4; exact ho4)
          clear hb4 hn4 ho hb
          go_wp2
          go_roundw
          case rel => exact ⟨0 + 1, by omega, by go_num, ⟨_, ho4, HE2⟩, hb5⟩
          case measure => simp only [intOf]; omega
        · have hj7 : ((7 : Int) - (j : Int) == 7) = false := by simp; omega
          have hx := ref_byte' hf (j := j) (by omega) hlt
          have HE2 : Hid (out ++ [((turn i / 256 ^ (7 - j) % 256 : Nat) : Int)] = bs ++ [1] ++ (be 8 (turn i)).take (j + 1)) := by rw [Hid, be_take (by omega), HE.out, List.append_assoc (bs ++ [1])]
          have hol : out.length ≤ 2008 := by rw [HE.out, List.length_append, List.length_take, be_len]; simp; omega
          clear HE
          go_wp2_with (first | (at_builtin; refine wpList_app rfl (.tmp 34) (.tmp 36) 23 rfl W.heap.size _ _ out [_] rfl rfl (ho.alloc _) (SrcB.one wr _) (by simp; omega) (by have := hb.size; simp; omega) ?_) | fail)
          intro v4 w4 ho4 hb4 hn4
          have hb5 : Below W.heap.size W w4 := (hb.alloc hb.size _).trans hb4
          replace ho4 : Own W.heap.size w4 v4 (out ++ [((turn i / 256 ^ (7 - j) % 256 : Nat) : Int)]) := by
            first | exact ho4 | (rw [hx] at ho4; exact ho4)
          clear hb4 hn4 ho hb
          go_wp2
          go_roundw
          case rel => exact ⟨j + 1, by omega, by go_num, ⟨_, ho4, HE2⟩, hb5⟩
          case measure => simp only [intOf]; omega
      · obtain rfl : j = 8 := by omega
        go_wp2
        go_ret
        have e : bs ++ keyL 1 i (nums s) = out := by rw [HE.out, List.take_of_length_le (by rw [be_len]; omega), keyL, if_pos rfl]; simp
        rw [e]
        obtain ⟨oo, q, hv, hr⟩ := ho.rd
        exact ⟨oo, q, by rw [hv]; rfl, hr, hb0.trans (hb.mono hb0.size)⟩
  · clear hf
    go_wp2_with fail
    have hv2 : ∀ g, w2.heap.size ≤ g → some g ≠ v2.ownBlock := fun g hg => ho2.apart hg
    have hw2 := hB2.size
    replace hv2 : Hid _ := hv2
    clear d0 d1
    go_region_held3 (fun w' => w'.cell? ⟨w.heap.size, 2, none⟩ = some (.string s)) (first | exact cell_later hB4 c2 | exact cell_later hB5 c2 | exact cell_later hB6 c2 | go_keep)
      (first
      | (refine step_app_at (by rfl) (.tmp 39) (.tmp 40) 23 (by rfl) W.heap.size v2 _ bs [2] (by rfl) (by rfl) (by first | exact (ho2.alloc _) | exact ((ho2.alloc _).alloc _) | exact (ho2.alloc _).drew | exact ((ho2.alloc _).alloc _).drew) (SrcB.at (tx := 23) (x := v2) (l := []) (by simp [go_sem])) (by simp; omega) (by simp; omega) ?_; intro v4 w4 ho4 hb4 hk4; have hB4 : Below W.heap.size W w4 := (by first | exact (hB2.alloc hw2 _).trans hb4 | exact ((hB2.alloc hw2 _).alloc (by simp; omega) _).trans hb4 | exact (hB2.alloc hw2 _).drew.trans hb4 | exact ((hB2.alloc hw2 _).alloc (by simp; omega) _).drew.trans hb4); (try (refine cut_of (hk4 w2.heap.size 0 (.int .u8 0)) ?_ (hv2.out _ (Nat.le_refl _)) ?_; (focus (simp [go_sem]; done)); intro za)); try (refine cut_of (hk4 (w2.heap.size + 1) 0 (.int .u8 0)) ?_ (hv2.out _ (Nat.le_succ _)) ?_; (focus (simp [go_sem]; done)); intro zb))
      | (refine step_app_at (by rfl) (.tmp 41) (.tmp 43) 9 (by rfl) W.heap.size v4 _ (bs ++ [2]) (nums s) (by rfl) (by rfl) (by first | exact ho4 | exact (ho4.alloc _) | exact ho4.drew | exact (ho4.alloc _).drew) (SrcB.ofText _ s) (by simp; omega) (by have := hB4.size; first | omega | (simp; omega)) ?_; intro v5 w5 ho5 hb5 hk5; have hB5 : Below W.heap.size W w5 := (by first | exact hB4.trans hb5 | exact (hB4.alloc hB4.size _).trans hb5 | exact (hB4.alloc hB4.size _).drew.trans hb5); (try (have zc := hk5 _ _ _ za.1 za.2)); (try (have zc := hk5 _ _ _ zb.1 zb.2)); try (refine cut_of (hk5 w4.heap.size 0 (.int .u8 0)) ?_ (ho4.apart (Nat.le_refl _)) ?_; (focus (simp [go_sem]; done)); intro zc))
      | (refine step_app_at (by rfl) (.tmp 44) (.tmp 45) 23 (by rfl) W.heap.size v5 _ (bs ++ [2] ++ nums s) [0] (by rfl) (by rfl) (by first | exact ho5 | exact (ho5.alloc _) | exact (ho5.alloc _).drew) (SrcB.at (tx := 23) (x := v2) (l := []) (by first | exact zc.1 | simp [go_sem])) (by simp; omega) (by have := hB5.size; first | omega | (simp; omega)) ?_; intro v6 w6 ho6 hb6 hk6; have hB6 : Below W.heap.size W w6 := (by first | exact hB5.trans hb6 | exact (hB5.alloc hB5.size _).trans hb6 | exact (hB5.alloc hB5.size _).drew.trans hb6)))
    all_goals
      go_wp2
      go_ret
      have e : bs ++ keyL 2 i (nums s) = bs ++ [2] ++ nums s ++ [0] := by rw [keyL, if_neg (by omega)]; simp
      rw [e]
      obtain ⟨oo, q, hv, hr⟩ := ho6.rd
      exact ⟨oo, q, by rw [hv]; rfl, hr, hb0.trans (hB6.mono hb0.size)⟩

end Go.Proofs.Ytdeplfhkeneabaa
