import Derived.Test.YtbmfehacnigknaaQlai
namespace Go.Proofs.Ytbmfehacnigknaa
open Go.RowKit
set_option linter.unusedVariables false
set_option linter.unusedSimpArgs false

theorem Try.infoTItV : (Try.prog.info? 61).map (fun i => (i.zero, i.size, i.bytes)) = some (some (.agg #[.int .i64 0, .string ⟨#[]⟩, .string ⟨#[]⟩]), 3, 40) := by kernel_rfl
theorem cK_succ (k : Nat) : cK (k + 1) = cK k ++ [itK k] := by unfold cK; rw [List.range_succ, List.map_append]; rfl
theorem nmT_at {k r : Nat} (h : k % 2 = r) : (#[Value.string ⟨#[116]⟩, .string ⟨#[117]⟩] : Array Value)[r]? = some (.string (nmT k)) := by
  unfold nmT
  rcases (show r = 0 ∨ r = 1 by omega) with rfl | rfl
  · rw [if_pos h]; rfl
  · rw [if_neg (by omega)]; rfl
theorem nmN_at {k d : Nat} (h : k / 2 = d) (hk : k < 6) : (#[Value.string ⟨#[97]⟩, .string ⟨#[98]⟩, .string ⟨#[99]⟩] : Array Value)[d]? = some (.string (nmN k)) := by
  unfold nmN
  rcases (show d = 0 ∨ d = 1 ∨ d = 2 by omega) with rfl | rfl | rfl
  · rw [if_pos h]; rfl
  · rw [if_neg (by omega), if_pos h]; rfl
  · rw [if_neg (by omega), if_neg (by omega)]; rfl
set_option maxRecDepth 100000 in
set_option maxHeartbeats 16000000 in
theorem evalCols_any {V : List Vt} (hVw : ∀ v ∈ V, Fits v.2.1 ∧ v.2.2.size ≤ 9223372036854775807) {a0 : Option Addr} {n c0 : Nat} (x : Nat) (hx : x ≤ 255) (w : World) (h : RowIs eVal (fun _ => True) w (.slice a0 n c0) V) : Calls Try.prog 7 #[.slice a0 n c0, .int .u8 (x : Int)] w fun e w' => e = .returned (.bool true) ∧ Below w.heap.size w w' := by
  have H0 : Hid _ := hid (begun11_any w)
  obtain ⟨hn, hnc, hcm⟩ := row_lens h
  have HR : Hid (∀ w', Below w.heap.size w w' → RowIs eVal (fun _ => True) w' (.slice a0 n c0) V) := hid fun w' hb => h.keep (by decide) fun b _ hl => hb.block b hl
  have HM : Hid (∀ w', Below w.heap.size w w' → _) := hid fun w' hb => refMayRow_any (fun v hv => (hVw v hv).2) (HR.out w' hb)
  clear h
  go_enter Try.func7, Try.ntmps7
  go_wp2_with fail
  refine Calls.mono H0.out ?_
  rintro e w1 ⟨rfl, hw1⟩
  clear H0
  cases hm : mayRw V with
  | false =>
    rw [hm] at HM
    go_wp2_with fail
    refine Calls.mono (HM.out _ hw1) ?_
    rintro e w2 ⟨rfl, hb2⟩
    clear HM
    go_wp2
    go_ret
    exact ⟨rfl, Below.on hw1 hb2⟩
  | true =>
    rw [hm] at HM
    unfold mayRw at hm
    rw [Bool.and_eq_true, Bool.and_eq_true, decide_eq_true_eq, decide_eq_true_eq, List.all_eq_true] at hm
    obtain ⟨hmv, h1n, hn6⟩ := hm
    rw [hn] at h1n hn6
    have hG : ∀ v ∈ V, Gd v ∧ (v.1 = 1 ∨ v.1 = 2) := fun v hv => mayV_gd (hVw v hv).1 (hmv v hv)
    clear hmv hVw
    go_wp2_with fail
    refine Calls.mono (HM.out _ hw1) ?_
    rintro e w2 ⟨rfl, hb2⟩
    replace hw1 := Below.on hw1 hb2
    have hw2 : w.heap.size ≤ w2.heap.size := hw1.size
    clear HM hb2
    go_wp2
    go_loopw [5, 6] (fun v5 v6 wr => ∃ (k : Nat) (a : Option Addr) (m d : Nat), k ≤ n ∧ v6 = .int .i64 k ∧ v5 = .slice a m d ∧ OwnR 61 3 w2.heap.size wr (.slice a m d) ((cK k).map itC) ∧ Below w.heap.size w wr ∧ w2.heap.size ≤ wr.heap.size) (fun _ i _ => n - (intOf i).toNat)
    case atStart => exact ⟨0, none, 0, 0, Nat.zero_le _, rfl, rfl, OwnR.nil _ _ _ _, hw1, Nat.le_refl _⟩
    case round =>
      obtain ⟨k, a, m, d, hk, rfl, rfl, ho, hBr, hsz⟩ := hrel
      by_cases hlt : k < n
      · obtain ⟨r, hr⟩ : ∃ r, k % 2 = r := ⟨_, rfl⟩
        obtain ⟨dd, hdd⟩ : ∃ d, k / 2 = d := ⟨_, rfl⟩
        have nt : (k : Int).tmod 2 = (r : Int) := by rw [Int.tmod_eq_emod_of_nonneg (by omega)]; omega
        have nd : (k : Int).tdiv 2 = (dd : Int) := by rw [Int.tdiv_eq_ediv_of_nonneg (by omega)]; omega
        have hwd : IntKind.i64.wrap (dd : Int) = (dd : Int) := wrapK (by omega) (by omega)
        have hr2 : (r : Int) < 2 := by omega
        have hd3 : (dd : Int) < 3 := by omega
        have hrn : r < 2 := by omega
        have hdn : dd < 3 := by omega
        have hkm : (k : Int) < (n : Int) := by omega
        have hk6 : k ≤ 6 := by omega
        have HTn : Hid _ := hid (nmT_at hr)
        have HNn : Hid _ := hid (nmN_at hdd (by omega))
        clear hr hdd hG
        go_upto_region 9 with fail
        refine wp_region_held_drew (S := fun w' => True) (by kernel_rfl) trivial (fun hHeld => ?_)
        replace ho : OwnR 61 3 w2.heap.size wr.drew (.slice a m d) ((cK k).map itC) := ho
        replace hBr := hBr.drew
        replace hsz : w2.heap.size ≤ wr.drew.heap.size := hsz
        generalize wr.drew = y at *
        refine wpAnyH_take (i := 0) (v := ?tv1001) rfl (by kernel_rfl) (by kernel_rfl) (by kernel_rfl) (fun _ _ _ h => h) (Or.inl ⟨by rfl, ?hy1001⟩) (by assumption) ?rs1001
        case hy1001 => (intro w9 hSw; (try dsimp only at hSw); go_simp; (try with_reducible rfl))
        (try simp only [Act.put, List.getElem_toArray, List.getElem_cons_zero, List.getElem_cons_succ, List.setIfInBounds_toArray, List.set_cons_zero, List.set_cons_succ])
        refine wpAnyH_take (i := 2) (v := ?tv1002) rfl (by kernel_rfl) (by kernel_rfl) (by kernel_rfl) (fun _ _ _ h => h) (Or.inl ⟨by rfl, ?hy1002⟩) (by assumption) ?rs1002
        case hy1002 => (intro w9 hSw; (try dsimp only at hSw); go_simp; (try with_reducible rfl))
        (try simp only [Act.put, List.getElem_toArray, List.getElem_cons_zero, List.getElem_cons_succ, List.setIfInBounds_toArray, List.set_cons_zero, List.set_cons_succ])
        refine wpAnyH_take (i := 3) (v := ?tv1003) rfl (by kernel_rfl) (by kernel_rfl) (by kernel_rfl) (fun _ _ _ h => h) (Or.inl ⟨by rfl, ?hy1003⟩) (by assumption) ?rs1003
        case hy1003 => (intro w9 hSw; (try dsimp only at hSw); go_simp; (try with_reducible rfl))
        (try simp only [Act.put, List.getElem_toArray, List.getElem_cons_zero, List.getElem_cons_succ, List.setIfInBounds_toArray, List.set_cons_zero, List.set_cons_succ])
        refine wpAnyH_take (i := 7) (v := ?tv1004) rfl (by kernel_rfl) (by kernel_rfl) (by kernel_rfl) (fun _ _ _ h => h) (Or.inl ⟨by rfl, ?hy1004⟩) (by assumption) ?rs1004
        case hy1004 => (intro w9 hSw; (try dsimp only at hSw); go_simp; (try with_reducible rfl))
        (try simp only [Act.put, List.getElem_toArray, List.getElem_cons_zero, List.getElem_cons_succ, List.setIfInBounds_toArray, List.set_cons_zero, List.set_cons_succ])
        refine wpAnyH_take (i := 8) (v := ?tv1005) rfl (by kernel_rfl) (by kernel_rfl) (by kernel_rfl) (fun _ _ _ h => h) (Or.inl ⟨by rfl, ?hy1005⟩) (by assumption) ?rs1005
        case hy1005 => (intro w9 hSw; (try dsimp only at hSw); go_simp; (try with_reducible rfl))
        (try simp only [Act.put, List.getElem_toArray, List.getElem_cons_zero, List.getElem_cons_succ, List.setIfInBounds_toArray, List.set_cons_zero, List.set_cons_succ])
        refine wpAnyH_ready (rs := [1, 6]) (by kernel_rfl) (by simp) ?_
        refine AllReadyH.cons rfl (fun K hK => ?_) (AllReadyH.cons rfl (fun K hK => ?_) AllReadyH.nil)
        · go_simp
          have bA := Bk.new y (.cells #[.string ⟨#[116]⟩, .string ⟨#[117]⟩] 9)
          obtain ⟨qA, hqA⟩ : ∃ qA, y.heap.size = qA := ⟨_, rfl⟩
          rw [hqA] at bA
          have cA : (y.alloc (.cells #[.string ⟨#[116]⟩, .string ⟨#[117]⟩] 9)).cell? ⟨qA, r, none⟩ = some (.string (nmT k)) := (bA.cell r).trans HTn.out
          replace ho := ho.alloc (.cells #[.string ⟨#[116]⟩, .string ⟨#[117]⟩] 9)
          replace hBr := bal hBr (.cells #[.string ⟨#[116]⟩, .string ⟨#[117]⟩] 9)
          replace hsz : w2.heap.size ≤ (y.alloc (.cells #[.string ⟨#[116]⟩, .string ⟨#[117]⟩] 9)).heap.size := Nat.le_trans hsz (by simp)
          refine hK.out _ _ trivial (fun hHeld => ?_)
          clear hK K bA
          (try simp only [Act.put, List.getElem_toArray, List.getElem_cons_zero, List.getElem_cons_succ, List.setIfInBounds_toArray, List.set_cons_zero, List.set_cons_succ])
          (try rw [hqA])
          clear hqA
          generalize y.alloc (.cells #[.string ⟨#[116]⟩, .string ⟨#[117]⟩] 9) = y at *
          refine wpAnyH_take (i := 4) (v := ?tv1006) rfl (by kernel_rfl) (by kernel_rfl) (by kernel_rfl) (fun _ _ _ h => h) (Or.inl ⟨by rfl, ?hy1006⟩) (by assumption) ?rs1006
          case hy1006 => (intro w9 hSw; (try dsimp only at hSw); go_simp; (try with_reducible rfl))
          (try simp only [Act.put, List.getElem_toArray, List.getElem_cons_zero, List.getElem_cons_succ, List.setIfInBounds_toArray, List.set_cons_zero, List.set_cons_succ])
          refine wpAnyH_ready (rs := [5, 6]) (by kernel_rfl) (by simp) ?_
          refine AllReadyH.cons rfl (fun K hK => ?_) (AllReadyH.cons rfl (fun K hK => ?_) AllReadyH.nil)
          · go_simp
            refine hK.out _ _ trivial (fun hHeld => ?_)
            clear hK K
            (try simp only [Act.put, List.getElem_toArray, List.getElem_cons_zero, List.getElem_cons_succ, List.setIfInBounds_toArray, List.set_cons_zero, List.set_cons_succ])
            refine wpAnyH_ready (rs := [6]) (by kernel_rfl) (by simp) ?_
            refine AllReadyH.cons rfl (fun K hK => ?_) AllReadyH.nil
            go_simp
            have bB := Bk.new y (.cells #[.string ⟨#[97]⟩, .string ⟨#[98]⟩, .string ⟨#[99]⟩] 9)
            obtain ⟨qB, hqB⟩ : ∃ qB, y.heap.size = qB := ⟨_, rfl⟩
            rw [hqB] at bB
            have cB : (y.alloc (.cells #[.string ⟨#[97]⟩, .string ⟨#[98]⟩, .string ⟨#[99]⟩] 9)).cell? ⟨qB, dd, none⟩ = some (.string (nmN k)) := (bB.cell dd).trans HNn.out
            replace ho := ho.alloc (.cells #[.string ⟨#[97]⟩, .string ⟨#[98]⟩, .string ⟨#[99]⟩] 9)
            replace hBr := bal hBr (.cells #[.string ⟨#[97]⟩, .string ⟨#[98]⟩, .string ⟨#[99]⟩] 9)
            replace hsz : w2.heap.size ≤ (y.alloc (.cells #[.string ⟨#[97]⟩, .string ⟨#[98]⟩, .string ⟨#[99]⟩] 9)).heap.size := Nat.le_trans hsz (by simp)
            replace cA := cell_later (bal (Below.refl _ _) (.cells #[.string ⟨#[97]⟩, .string ⟨#[98]⟩, .string ⟨#[99]⟩] 9)) cA
            refine hK.out _ _ trivial (fun hHeld => ?_)
            clear hK K bB
            (try simp only [Act.put, List.getElem_toArray, List.getElem_cons_zero, List.getElem_cons_succ, List.setIfInBounds_toArray, List.set_cons_zero, List.set_cons_succ])
            (try rw [hqB])
            clear hqB
            generalize y.alloc (.cells #[.string ⟨#[97]⟩, .string ⟨#[98]⟩, .string ⟨#[99]⟩] 9) = y at *
            refine wpAnyH_take (i := 9) (v := ?tv1007) rfl (by kernel_rfl) (by kernel_rfl) (by kernel_rfl) (fun _ _ _ h => h) (Or.inl ⟨by rfl, ?hy1007⟩) (by assumption) ?rs1007
            case hy1007 => (intro w9 hSw; (try dsimp only at hSw); go_simp; (try with_reducible rfl))
            (try simp only [Act.put, List.getElem_toArray, List.getElem_cons_zero, List.getElem_cons_succ, List.setIfInBounds_toArray, List.set_cons_zero, List.set_cons_succ])
            refine wpAnyH_ready (rs := [10]) (by kernel_rfl) (by simp) ?_
            refine AllReadyH.cons rfl (fun K hK => ?_) AllReadyH.nil
            go_simp
            refine hK.out _ _ trivial (fun hHeld => ?_)
            clear hK K
            (try simp only [Act.put, List.getElem_toArray, List.getElem_cons_zero, List.getElem_cons_succ, List.setIfInBounds_toArray, List.set_cons_zero, List.set_cons_succ])
            refine wpAnyH_take (i := 11) (v := ?tv1008) rfl (by kernel_rfl) (by kernel_rfl) (by kernel_rfl) (fun _ _ _ h => h) (Or.inl ⟨by rfl, ?hy1008⟩) (by assumption) ?rs1008
            case hy1008 => (intro w9 hSw; (try dsimp only at hSw); go_simp; (try with_reducible rfl))
            (try simp only [Act.put, List.getElem_toArray, List.getElem_cons_zero, List.getElem_cons_succ, List.setIfInBounds_toArray, List.set_cons_zero, List.set_cons_succ])
            refine wpAnyH_ready (rs := [12]) (by kernel_rfl) (by simp) ?_
            refine AllReadyH.cons rfl (fun K hK => ?_) AllReadyH.nil
            go_simp
            have ho5 := ho.alloc (.cells #[.int .i64 0, .string (nmT k), .string (nmN k)] 61)
            have hB5 := bal hBr (.cells #[.int .i64 0, .string (nmT k), .string (nmN k)] 61)
            refine hK.out _ _ trivial (fun hHeld => ?_)
            clear hK K
            (try simp only [Act.put, List.getElem_toArray, List.getElem_cons_zero, List.getElem_cons_succ, List.setIfInBounds_toArray, List.set_cons_zero, List.set_cons_succ])
            refine wpAnyH_ready (rs := [13]) (by kernel_rfl) (by simp) ?_
            refine AllReadyH.cons rfl (fun K hK => ?_) AllReadyH.nil
            have hs5 : w2.heap.size ≤ (y.alloc (.cells #[.int .i64 0, .string (nmT k), .string (nmN k)] 61)).heap.size := Nat.le_trans hsz (by simp)
            refine step_appR (B := w2.heap.size) (by rfl) (.tmp 26) (.tmp 38) (by rfl) Try.underlying33 Try.infoTItV rfl (by decide) (by decide) _ ((cK k).map itC) y.heap.size [.int .i64 0, .string (nmT k), .string (nmN k)] (by rfl) (by rfl) ho5 rfl (one_item _ _ _) (new3 y _ _ _ _) (by rw [List.length_map, cK_len]; omega) hs5 ?_
            intro v' w6 hO6 hg6 hown
            have hblk := ho.blk
            have hb7 := below_grows hB5 (Nat.le_trans hw2 hs5) hg6 fun q e => Nat.le_trans hw2 (hblk q e).1
            have hsz6 : w2.heap.size ≤ w6.heap.size := Nat.le_trans hs5 hg6.size
            obtain ⟨a6, m6, d6, rfl⟩ := hO6.sl
            refine hK.out _ _ trivial (fun hHeld => ?_)
            clear hK K
            (try simp only [Act.put, List.getElem_toArray, List.getElem_cons_zero, List.getElem_cons_succ, List.setIfInBounds_toArray, List.set_cons_zero, List.set_cons_succ])
            refine wpAnyH_ready (rs := [14]) (by kernel_rfl) (by simp) ?_
            refine AllReadyH.cons rfl (fun K hK => ?_) AllReadyH.nil
            go_simp
            refine hK.out _ _ trivial (fun hHeld => ?_)
            clear hK K
            (try simp only [Act.put, List.getElem_toArray, List.getElem_cons_zero, List.getElem_cons_succ, List.setIfInBounds_toArray, List.set_cons_zero, List.set_cons_succ])
            refine wpAnyH_done (by kernel_rfl) ?_ _
            clear hHeld ho ho5 hBr hB5 cA cB hg6 hown hblk
            go_wp2
            go_roundw
            case rel => exact ⟨k + 1, a6, m6, d6, by omega, by go_num, rfl, by rw [cK_succ, List.map_append]; exact hO6, hb7, hsz6⟩
            case measure => simp only [intOf]; omega
          · go_simp
            have bB := Bk.new y (.cells #[.string ⟨#[97]⟩, .string ⟨#[98]⟩, .string ⟨#[99]⟩] 9)
            obtain ⟨qB, hqB⟩ : ∃ qB, y.heap.size = qB := ⟨_, rfl⟩
            rw [hqB] at bB
            have cB : (y.alloc (.cells #[.string ⟨#[97]⟩, .string ⟨#[98]⟩, .string ⟨#[99]⟩] 9)).cell? ⟨qB, dd, none⟩ = some (.string (nmN k)) := (bB.cell dd).trans HNn.out
            replace ho := ho.alloc (.cells #[.string ⟨#[97]⟩, .string ⟨#[98]⟩, .string ⟨#[99]⟩] 9)
            replace hBr := bal hBr (.cells #[.string ⟨#[97]⟩, .string ⟨#[98]⟩, .string ⟨#[99]⟩] 9)
            replace hsz : w2.heap.size ≤ (y.alloc (.cells #[.string ⟨#[97]⟩, .string ⟨#[98]⟩, .string ⟨#[99]⟩] 9)).heap.size := Nat.le_trans hsz (by simp)
            replace cA := cell_later (bal (Below.refl _ _) (.cells #[.string ⟨#[97]⟩, .string ⟨#[98]⟩, .string ⟨#[99]⟩] 9)) cA
            refine hK.out _ _ trivial (fun hHeld => ?_)
            clear hK K bB
            (try simp only [Act.put, List.getElem_toArray, List.getElem_cons_zero, List.getElem_cons_succ, List.setIfInBounds_toArray, List.set_cons_zero, List.set_cons_succ])
            (try rw [hqB])
            clear hqB
            generalize y.alloc (.cells #[.string ⟨#[97]⟩, .string ⟨#[98]⟩, .string ⟨#[99]⟩] 9) = y at *
            refine wpAnyH_take (i := 9) (v := ?tv1009) rfl (by kernel_rfl) (by kernel_rfl) (by kernel_rfl) (fun _ _ _ h => h) (Or.inl ⟨by rfl, ?hy1009⟩) (by assumption) ?rs1009
            case hy1009 => (intro w9 hSw; (try dsimp only at hSw); go_simp; (try with_reducible rfl))
            (try simp only [Act.put, List.getElem_toArray, List.getElem_cons_zero, List.getElem_cons_succ, List.setIfInBounds_toArray, List.set_cons_zero, List.set_cons_succ])
            refine wpAnyH_ready (rs := [5, 10]) (by kernel_rfl) (by simp) ?_
            refine AllReadyH.cons rfl (fun K hK => ?_) (AllReadyH.cons rfl (fun K hK => ?_) AllReadyH.nil)
            · go_simp
              refine hK.out _ _ trivial (fun hHeld => ?_)
              clear hK K
              (try simp only [Act.put, List.getElem_toArray, List.getElem_cons_zero, List.getElem_cons_succ, List.setIfInBounds_toArray, List.set_cons_zero, List.set_cons_succ])
              refine wpAnyH_ready (rs := [10]) (by kernel_rfl) (by simp) ?_
              refine AllReadyH.cons rfl (fun K hK => ?_) AllReadyH.nil
              go_simp
              refine hK.out _ _ trivial (fun hHeld => ?_)
              clear hK K
              (try simp only [Act.put, List.getElem_toArray, List.getElem_cons_zero, List.getElem_cons_succ, List.setIfInBounds_toArray, List.set_cons_zero, List.set_cons_succ])
              refine wpAnyH_take (i := 11) (v := ?tv1010) rfl (by kernel_rfl) (by kernel_rfl) (by kernel_rfl) (fun _ _ _ h => h) (Or.inl ⟨by rfl, ?hy1010⟩) (by assumption) ?rs1010
              case hy1010 => (intro w9 hSw; (try dsimp only at hSw); go_simp; (try with_reducible rfl))
              (try simp only [Act.put, List.getElem_toArray, List.getElem_cons_zero, List.getElem_cons_succ, List.setIfInBounds_toArray, List.set_cons_zero, List.set_cons_succ])
              refine wpAnyH_ready (rs := [12]) (by kernel_rfl) (by simp) ?_
              refine AllReadyH.cons rfl (fun K hK => ?_) AllReadyH.nil
              go_simp
              have ho5 := ho.alloc (.cells #[.int .i64 0, .string (nmT k), .string (nmN k)] 61)
              have hB5 := bal hBr (.cells #[.int .i64 0, .string (nmT k), .string (nmN k)] 61)
              refine hK.out _ _ trivial (fun hHeld => ?_)
              clear hK K
              (try simp only [Act.put, List.getElem_toArray, List.getElem_cons_zero, List.getElem_cons_succ, List.setIfInBounds_toArray, List.set_cons_zero, List.set_cons_succ])
              refine wpAnyH_ready (rs := [13]) (by kernel_rfl) (by simp) ?_
              refine AllReadyH.cons rfl (fun K hK => ?_) AllReadyH.nil
              have hs5 : w2.heap.size ≤ (y.alloc (.cells #[.int .i64 0, .string (nmT k), .string (nmN k)] 61)).heap.size := Nat.le_trans hsz (by simp)
              refine step_appR (B := w2.heap.size) (by rfl) (.tmp 26) (.tmp 38) (by rfl) Try.underlying33 Try.infoTItV rfl (by decide) (by decide) _ ((cK k).map itC) y.heap.size [.int .i64 0, .string (nmT k), .string (nmN k)] (by rfl) (by rfl) ho5 rfl (one_item _ _ _) (new3 y _ _ _ _) (by rw [List.length_map, cK_len]; omega) hs5 ?_
              intro v' w6 hO6 hg6 hown
              have hblk := ho.blk
              have hb7 := below_grows hB5 (Nat.le_trans hw2 hs5) hg6 fun q e => Nat.le_trans hw2 (hblk q e).1
              have hsz6 : w2.heap.size ≤ w6.heap.size := Nat.le_trans hs5 hg6.size
              obtain ⟨a6, m6, d6, rfl⟩ := hO6.sl
              refine hK.out _ _ trivial (fun hHeld => ?_)
              clear hK K
              (try simp only [Act.put, List.getElem_toArray, List.getElem_cons_zero, List.getElem_cons_succ, List.setIfInBounds_toArray, List.set_cons_zero, List.set_cons_succ])
              refine wpAnyH_ready (rs := [14]) (by kernel_rfl) (by simp) ?_
              refine AllReadyH.cons rfl (fun K hK => ?_) AllReadyH.nil
              go_simp
              refine hK.out _ _ trivial (fun hHeld => ?_)
              clear hK K
              (try simp only [Act.put, List.getElem_toArray, List.getElem_cons_zero, List.getElem_cons_succ, List.setIfInBounds_toArray, List.set_cons_zero, List.set_cons_succ])
              refine wpAnyH_done (by kernel_rfl) ?_ _
              clear hHeld ho ho5 hBr hB5 cA cB hg6 hown hblk
              go_wp2
              go_roundw
              case rel => exact ⟨k + 1, a6, m6, d6, by omega, by go_num, rfl, by rw [cK_succ, List.map_append]; exact hO6, hb7, hsz6⟩
              case measure => simp only [intOf]; omega
            · go_simp
              refine hK.out _ _ trivial (fun hHeld => ?_)
              clear hK K
              (try simp only [Act.put, List.getElem_toArray, List.getElem_cons_zero, List.getElem_cons_succ, List.setIfInBounds_toArray, List.set_cons_zero, List.set_cons_succ])
              refine wpAnyH_ready (rs := [5]) (by kernel_rfl) (by simp) ?_
              refine AllReadyH.cons rfl (fun K hK => ?_) AllReadyH.nil
              go_simp
              refine hK.out _ _ trivial (fun hHeld => ?_)
              clear hK K
              (try simp only [Act.put, List.getElem_toArray, List.getElem_cons_zero, List.getElem_cons_succ, List.setIfInBounds_toArray, List.set_cons_zero, List.set_cons_succ])
              refine wpAnyH_take (i := 11) (v := ?tv1011) rfl (by kernel_rfl) (by kernel_rfl) (by kernel_rfl) (fun _ _ _ h => h) (Or.inl ⟨by rfl, ?hy1011⟩) (by assumption) ?rs1011
              case hy1011 => (intro w9 hSw; (try dsimp only at hSw); go_simp; (try with_reducible rfl))
              (try simp only [Act.put, List.getElem_toArray, List.getElem_cons_zero, List.getElem_cons_succ, List.setIfInBounds_toArray, List.set_cons_zero, List.set_cons_succ])
              refine wpAnyH_ready (rs := [12]) (by kernel_rfl) (by simp) ?_
              refine AllReadyH.cons rfl (fun K hK => ?_) AllReadyH.nil
              go_simp
              have ho5 := ho.alloc (.cells #[.int .i64 0, .string (nmT k), .string (nmN k)] 61)
              have hB5 := bal hBr (.cells #[.int .i64 0, .string (nmT k), .string (nmN k)] 61)
              refine hK.out _ _ trivial (fun hHeld => ?_)
              clear hK K
              (try simp only [Act.put, List.getElem_toArray, List.getElem_cons_zero, List.getElem_cons_succ, List.setIfInBounds_toArray, List.set_cons_zero, List.set_cons_succ])
              refine wpAnyH_ready (rs := [13]) (by kernel_rfl) (by simp) ?_
              refine AllReadyH.cons rfl (fun K hK => ?_) AllReadyH.nil
              have hs5 : w2.heap.size ≤ (y.alloc (.cells #[.int .i64 0, .string (nmT k), .string (nmN k)] 61)).heap.size := Nat.le_trans hsz (by simp)
              refine step_appR (B := w2.heap.size) (by rfl) (.tmp 26) (.tmp 38) (by rfl) Try.underlying33 Try.infoTItV rfl (by decide) (by decide) _ ((cK k).map itC) y.heap.size [.int .i64 0, .string (nmT k), .string (nmN k)] (by rfl) (by rfl) ho5 rfl (one_item _ _ _) (new3 y _ _ _ _) (by rw [List.length_map, cK_len]; omega) hs5 ?_
              intro v' w6 hO6 hg6 hown
              have hblk := ho.blk
              have hb7 := below_grows hB5 (Nat.le_trans hw2 hs5) hg6 fun q e => Nat.le_trans hw2 (hblk q e).1
              have hsz6 : w2.heap.size ≤ w6.heap.size := Nat.le_trans hs5 hg6.size
              obtain ⟨a6, m6, d6, rfl⟩ := hO6.sl
              refine hK.out _ _ trivial (fun hHeld => ?_)
              clear hK K
              (try simp only [Act.put, List.getElem_toArray, List.getElem_cons_zero, List.getElem_cons_succ, List.setIfInBounds_toArray, List.set_cons_zero, List.set_cons_succ])
              refine wpAnyH_ready (rs := [14]) (by kernel_rfl) (by simp) ?_
              refine AllReadyH.cons rfl (fun K hK => ?_) AllReadyH.nil
              go_simp
              refine hK.out _ _ trivial (fun hHeld => ?_)
              clear hK K
              (try simp only [Act.put, List.getElem_toArray, List.getElem_cons_zero, List.getElem_cons_succ, List.setIfInBounds_toArray, List.set_cons_zero, List.set_cons_succ])
              refine wpAnyH_done (by kernel_rfl) ?_ _
              clear hHeld ho ho5 hBr hB5 cA cB hg6 hown hblk
              go_wp2
              go_roundw
              case rel => exact ⟨k + 1, a6, m6, d6, by omega, by go_num, rfl, by rw [cK_succ, List.map_append]; exact hO6, hb7, hsz6⟩
              case measure => simp only [intOf]; omega
        · go_simp
          have bB := Bk.new y (.cells #[.string ⟨#[97]⟩, .string ⟨#[98]⟩, .string ⟨#[99]⟩] 9)
          obtain ⟨qB, hqB⟩ : ∃ qB, y.heap.size = qB := ⟨_, rfl⟩
          rw [hqB] at bB
          have cB : (y.alloc (.cells #[.string ⟨#[97]⟩, .string ⟨#[98]⟩, .string ⟨#[99]⟩] 9)).cell? ⟨qB, dd, none⟩ = some (.string (nmN k)) := (bB.cell dd).trans HNn.out
          replace ho := ho.alloc (.cells #[.string ⟨#[97]⟩, .string ⟨#[98]⟩, .string ⟨#[99]⟩] 9)
          replace hBr := bal hBr (.cells #[.string ⟨#[97]⟩, .string ⟨#[98]⟩, .string ⟨#[99]⟩] 9)
          replace hsz : w2.heap.size ≤ (y.alloc (.cells #[.string ⟨#[97]⟩, .string ⟨#[98]⟩, .string ⟨#[99]⟩] 9)).heap.size := Nat.le_trans hsz (by simp)
          refine hK.out _ _ trivial (fun hHeld => ?_)
          clear hK K bB
          (try simp only [Act.put, List.getElem_toArray, List.getElem_cons_zero, List.getElem_cons_succ, List.setIfInBounds_toArray, List.set_cons_zero, List.set_cons_succ])
          (try rw [hqB])
          clear hqB
          generalize y.alloc (.cells #[.string ⟨#[97]⟩, .string ⟨#[98]⟩, .string ⟨#[99]⟩] 9) = y at *
          refine wpAnyH_take (i := 9) (v := ?tv1012) rfl (by kernel_rfl) (by kernel_rfl) (by kernel_rfl) (fun _ _ _ h => h) (Or.inl ⟨by rfl, ?hy1012⟩) (by assumption) ?rs1012
          case hy1012 => (intro w9 hSw; (try dsimp only at hSw); go_simp; (try with_reducible rfl))
          (try simp only [Act.put, List.getElem_toArray, List.getElem_cons_zero, List.getElem_cons_succ, List.setIfInBounds_toArray, List.set_cons_zero, List.set_cons_succ])
          refine wpAnyH_ready (rs := [1, 10]) (by kernel_rfl) (by simp) ?_
          refine AllReadyH.cons rfl (fun K hK => ?_) (AllReadyH.cons rfl (fun K hK => ?_) AllReadyH.nil)
          · go_simp
            have bA := Bk.new y (.cells #[.string ⟨#[116]⟩, .string ⟨#[117]⟩] 9)
            obtain ⟨qA, hqA⟩ : ∃ qA, y.heap.size = qA := ⟨_, rfl⟩
            rw [hqA] at bA
            have cA : (y.alloc (.cells #[.string ⟨#[116]⟩, .string ⟨#[117]⟩] 9)).cell? ⟨qA, r, none⟩ = some (.string (nmT k)) := (bA.cell r).trans HTn.out
            replace ho := ho.alloc (.cells #[.string ⟨#[116]⟩, .string ⟨#[117]⟩] 9)
            replace hBr := bal hBr (.cells #[.string ⟨#[116]⟩, .string ⟨#[117]⟩] 9)
            replace hsz : w2.heap.size ≤ (y.alloc (.cells #[.string ⟨#[116]⟩, .string ⟨#[117]⟩] 9)).heap.size := Nat.le_trans hsz (by simp)
            replace cB := cell_later (bal (Below.refl _ _) (.cells #[.string ⟨#[116]⟩, .string ⟨#[117]⟩] 9)) cB
            refine hK.out _ _ trivial (fun hHeld => ?_)
            clear hK K bA
            (try simp only [Act.put, List.getElem_toArray, List.getElem_cons_zero, List.getElem_cons_succ, List.setIfInBounds_toArray, List.set_cons_zero, List.set_cons_succ])
            (try rw [hqA])
            clear hqA
            generalize y.alloc (.cells #[.string ⟨#[116]⟩, .string ⟨#[117]⟩] 9) = y at *
            refine wpAnyH_take (i := 4) (v := ?tv1013) rfl (by kernel_rfl) (by kernel_rfl) (by kernel_rfl) (fun _ _ _ h => h) (Or.inl ⟨by rfl, ?hy1013⟩) (by assumption) ?rs1013
            case hy1013 => (intro w9 hSw; (try dsimp only at hSw); go_simp; (try with_reducible rfl))
            (try simp only [Act.put, List.getElem_toArray, List.getElem_cons_zero, List.getElem_cons_succ, List.setIfInBounds_toArray, List.set_cons_zero, List.set_cons_succ])
            refine wpAnyH_ready (rs := [5, 10]) (by kernel_rfl) (by simp) ?_
            refine AllReadyH.cons rfl (fun K hK => ?_) (AllReadyH.cons rfl (fun K hK => ?_) AllReadyH.nil)
            · go_simp
              refine hK.out _ _ trivial (fun hHeld => ?_)
              clear hK K
              (try simp only [Act.put, List.getElem_toArray, List.getElem_cons_zero, List.getElem_cons_succ, List.setIfInBounds_toArray, List.set_cons_zero, List.set_cons_succ])
              refine wpAnyH_ready (rs := [10]) (by kernel_rfl) (by simp) ?_
              refine AllReadyH.cons rfl (fun K hK => ?_) AllReadyH.nil
              go_simp
              refine hK.out _ _ trivial (fun hHeld => ?_)
              clear hK K
              (try simp only [Act.put, List.getElem_toArray, List.getElem_cons_zero, List.getElem_cons_succ, List.setIfInBounds_toArray, List.set_cons_zero, List.set_cons_succ])
              refine wpAnyH_take (i := 11) (v := ?tv1014) rfl (by kernel_rfl) (by kernel_rfl) (by kernel_rfl) (fun _ _ _ h => h) (Or.inl ⟨by rfl, ?hy1014⟩) (by assumption) ?rs1014
              case hy1014 => (intro w9 hSw; (try dsimp only at hSw); go_simp; (try with_reducible rfl))
              (try simp only [Act.put, List.getElem_toArray, List.getElem_cons_zero, List.getElem_cons_succ, List.setIfInBounds_toArray, List.set_cons_zero, List.set_cons_succ])
              refine wpAnyH_ready (rs := [12]) (by kernel_rfl) (by simp) ?_
              refine AllReadyH.cons rfl (fun K hK => ?_) AllReadyH.nil
              go_simp
              have ho5 := ho.alloc (.cells #[.int .i64 0, .string (nmT k), .string (nmN k)] 61)
              have hB5 := bal hBr (.cells #[.int .i64 0, .string (nmT k), .string (nmN k)] 61)
              refine hK.out _ _ trivial (fun hHeld => ?_)
              clear hK K
              (try simp only [Act.put, List.getElem_toArray, List.getElem_cons_zero, List.getElem_cons_succ, List.setIfInBounds_toArray, List.set_cons_zero, List.set_cons_succ])
              refine wpAnyH_ready (rs := [13]) (by kernel_rfl) (by simp) ?_
              refine AllReadyH.cons rfl (fun K hK => ?_) AllReadyH.nil
              have hs5 : w2.heap.size ≤ (y.alloc (.cells #[.int .i64 0, .string (nmT k), .string (nmN k)] 61)).heap.size := Nat.le_trans hsz (by simp)
              refine step_appR (B := w2.heap.size) (by rfl) (.tmp 26) (.tmp 38) (by rfl) Try.underlying33 Try.infoTItV rfl (by decide) (by decide) _ ((cK k).map itC) y.heap.size [.int .i64 0, .string (nmT k), .string (nmN k)] (by rfl) (by rfl) ho5 rfl (one_item _ _ _) (new3 y _ _ _ _) (by rw [List.length_map, cK_len]; omega) hs5 ?_
              intro v' w6 hO6 hg6 hown
              have hblk := ho.blk
              have hb7 := below_grows hB5 (Nat.le_trans hw2 hs5) hg6 fun q e => Nat.le_trans hw2 (hblk q e).1
              have hsz6 : w2.heap.size ≤ w6.heap.size := Nat.le_trans hs5 hg6.size
              obtain ⟨a6, m6, d6, rfl⟩ := hO6.sl
              refine hK.out _ _ trivial (fun hHeld => ?_)
              clear hK K
              (try simp only [Act.put, List.getElem_toArray, List.getElem_cons_zero, List.getElem_cons_succ, List.setIfInBounds_toArray, List.set_cons_zero, List.set_cons_succ])
              refine wpAnyH_ready (rs := [14]) (by kernel_rfl) (by simp) ?_
              refine AllReadyH.cons rfl (fun K hK => ?_) AllReadyH.nil
              go_simp
              refine hK.out _ _ trivial (fun hHeld => ?_)
              clear hK K
              (try simp only [Act.put, List.getElem_toArray, List.getElem_cons_zero, List.getElem_cons_succ, List.setIfInBounds_toArray, List.set_cons_zero, List.set_cons_succ])
              refine wpAnyH_done (by kernel_rfl) ?_ _
              clear hHeld ho ho5 hBr hB5 cA cB hg6 hown hblk
              go_wp2
              go_roundw
              case rel => exact ⟨k + 1, a6, m6, d6, by omega, by go_num, rfl, by rw [cK_succ, List.map_append]; exact hO6, hb7, hsz6⟩
              case measure => simp only [intOf]; omega
            · go_simp
              refine hK.out _ _ trivial (fun hHeld => ?_)
              clear hK K
              (try simp only [Act.put, List.getElem_toArray, List.getElem_cons_zero, List.getElem_cons_succ, List.setIfInBounds_toArray, List.set_cons_zero, List.set_cons_succ])
              refine wpAnyH_ready (rs := [5]) (by kernel_rfl) (by simp) ?_
              refine AllReadyH.cons rfl (fun K hK => ?_) AllReadyH.nil
              go_simp
              refine hK.out _ _ trivial (fun hHeld => ?_)
              clear hK K
              (try simp only [Act.put, List.getElem_toArray, List.getElem_cons_zero, List.getElem_cons_succ, List.setIfInBounds_toArray, List.set_cons_zero, List.set_cons_succ])
              refine wpAnyH_take (i := 11) (v := ?tv1015) rfl (by kernel_rfl) (by kernel_rfl) (by kernel_rfl) (fun _ _ _ h => h) (Or.inl ⟨by rfl, ?hy1015⟩) (by assumption) ?rs1015
              case hy1015 => (intro w9 hSw; (try dsimp only at hSw); go_simp; (try with_reducible rfl))
              (try simp only [Act.put, List.getElem_toArray, List.getElem_cons_zero, List.getElem_cons_succ, List.setIfInBounds_toArray, List.set_cons_zero, List.set_cons_succ])
              refine wpAnyH_ready (rs := [12]) (by kernel_rfl) (by simp) ?_
              refine AllReadyH.cons rfl (fun K hK => ?_) AllReadyH.nil
              go_simp
              have ho5 := ho.alloc (.cells #[.int .i64 0, .string (nmT k), .string (nmN k)] 61)
              have hB5 := bal hBr (.cells #[.int .i64 0, .string (nmT k), .string (nmN k)] 61)
              refine hK.out _ _ trivial (fun hHeld => ?_)
              clear hK K
              (try simp only [Act.put, List.getElem_toArray, List.getElem_cons_zero, List.getElem_cons_succ, List.setIfInBounds_toArray, List.set_cons_zero, List.set_cons_succ])
              refine wpAnyH_ready (rs := [13]) (by kernel_rfl) (by simp) ?_
              refine AllReadyH.cons rfl (fun K hK => ?_) AllReadyH.nil
              have hs5 : w2.heap.size ≤ (y.alloc (.cells #[.int .i64 0, .string (nmT k), .string (nmN k)] 61)).heap.size := Nat.le_trans hsz (by simp)
              refine step_appR (B := w2.heap.size) (by rfl) (.tmp 26) (.tmp 38) (by rfl) Try.underlying33 Try.infoTItV rfl (by decide) (by decide) _ ((cK k).map itC) y.heap.size [.int .i64 0, .string (nmT k), .string (nmN k)] (by rfl) (by rfl) ho5 rfl (one_item _ _ _) (new3 y _ _ _ _) (by rw [List.length_map, cK_len]; omega) hs5 ?_
              intro v' w6 hO6 hg6 hown
              have hblk := ho.blk
              have hb7 := below_grows hB5 (Nat.le_trans hw2 hs5) hg6 fun q e => Nat.le_trans hw2 (hblk q e).1
              have hsz6 : w2.heap.size ≤ w6.heap.size := Nat.le_trans hs5 hg6.size
              obtain ⟨a6, m6, d6, rfl⟩ := hO6.sl
              refine hK.out _ _ trivial (fun hHeld => ?_)
              clear hK K
              (try simp only [Act.put, List.getElem_toArray, List.getElem_cons_zero, List.getElem_cons_succ, List.setIfInBounds_toArray, List.set_cons_zero, List.set_cons_succ])
              refine wpAnyH_ready (rs := [14]) (by kernel_rfl) (by simp) ?_
              refine AllReadyH.cons rfl (fun K hK => ?_) AllReadyH.nil
              go_simp
              refine hK.out _ _ trivial (fun hHeld => ?_)
              clear hK K
              (try simp only [Act.put, List.getElem_toArray, List.getElem_cons_zero, List.getElem_cons_succ, List.setIfInBounds_toArray, List.set_cons_zero, List.set_cons_succ])
              refine wpAnyH_done (by kernel_rfl) ?_ _
              clear hHeld ho ho5 hBr hB5 cA cB hg6 hown hblk
              go_wp2
              go_roundw
              case rel => exact ⟨k + 1, a6, m6, d6, by omega, by go_num, rfl, by rw [cK_succ, List.map_append]; exact hO6, hb7, hsz6⟩
              case measure => simp only [intOf]; omega
          · go_simp
            refine hK.out _ _ trivial (fun hHeld => ?_)
            clear hK K
            (try simp only [Act.put, List.getElem_toArray, List.getElem_cons_zero, List.getElem_cons_succ, List.setIfInBounds_toArray, List.set_cons_zero, List.set_cons_succ])
            refine wpAnyH_ready (rs := [1]) (by kernel_rfl) (by simp) ?_
            refine AllReadyH.cons rfl (fun K hK => ?_) AllReadyH.nil
            go_simp
            have bA := Bk.new y (.cells #[.string ⟨#[116]⟩, .string ⟨#[117]⟩] 9)
            obtain ⟨qA, hqA⟩ : ∃ qA, y.heap.size = qA := ⟨_, rfl⟩
            rw [hqA] at bA
            have cA : (y.alloc (.cells #[.string ⟨#[116]⟩, .string ⟨#[117]⟩] 9)).cell? ⟨qA, r, none⟩ = some (.string (nmT k)) := (bA.cell r).trans HTn.out
            replace ho := ho.alloc (.cells #[.string ⟨#[116]⟩, .string ⟨#[117]⟩] 9)
            replace hBr := bal hBr (.cells #[.string ⟨#[116]⟩, .string ⟨#[117]⟩] 9)
            replace hsz : w2.heap.size ≤ (y.alloc (.cells #[.string ⟨#[116]⟩, .string ⟨#[117]⟩] 9)).heap.size := Nat.le_trans hsz (by simp)
            replace cB := cell_later (bal (Below.refl _ _) (.cells #[.string ⟨#[116]⟩, .string ⟨#[117]⟩] 9)) cB
            refine hK.out _ _ trivial (fun hHeld => ?_)
            clear hK K bA
            (try simp only [Act.put, List.getElem_toArray, List.getElem_cons_zero, List.getElem_cons_succ, List.setIfInBounds_toArray, List.set_cons_zero, List.set_cons_succ])
            (try rw [hqA])
            clear hqA
            generalize y.alloc (.cells #[.string ⟨#[116]⟩, .string ⟨#[117]⟩] 9) = y at *
            refine wpAnyH_take (i := 4) (v := ?tv1016) rfl (by kernel_rfl) (by kernel_rfl) (by kernel_rfl) (fun _ _ _ h => h) (Or.inl ⟨by rfl, ?hy1016⟩) (by assumption) ?rs1016
            case hy1016 => (intro w9 hSw; (try dsimp only at hSw); go_simp; (try with_reducible rfl))
            (try simp only [Act.put, List.getElem_toArray, List.getElem_cons_zero, List.getElem_cons_succ, List.setIfInBounds_toArray, List.set_cons_zero, List.set_cons_succ])
            refine wpAnyH_ready (rs := [5]) (by kernel_rfl) (by simp) ?_
            refine AllReadyH.cons rfl (fun K hK => ?_) AllReadyH.nil
            go_simp
            refine hK.out _ _ trivial (fun hHeld => ?_)
            clear hK K
            (try simp only [Act.put, List.getElem_toArray, List.getElem_cons_zero, List.getElem_cons_succ, List.setIfInBounds_toArray, List.set_cons_zero, List.set_cons_succ])
            refine wpAnyH_take (i := 11) (v := ?tv1017) rfl (by kernel_rfl) (by kernel_rfl) (by kernel_rfl) (fun _ _ _ h => h) (Or.inl ⟨by rfl, ?hy1017⟩) (by assumption) ?rs1017
            case hy1017 => (intro w9 hSw; (try dsimp only at hSw); go_simp; (try with_reducible rfl))
            (try simp only [Act.put, List.getElem_toArray, List.getElem_cons_zero, List.getElem_cons_succ, List.setIfInBounds_toArray, List.set_cons_zero, List.set_cons_succ])
            refine wpAnyH_ready (rs := [12]) (by kernel_rfl) (by simp) ?_
            refine AllReadyH.cons rfl (fun K hK => ?_) AllReadyH.nil
            go_simp
            have ho5 := ho.alloc (.cells #[.int .i64 0, .string (nmT k), .string (nmN k)] 61)
            have hB5 := bal hBr (.cells #[.int .i64 0, .string (nmT k), .string (nmN k)] 61)
            refine hK.out _ _ trivial (fun hHeld => ?_)
            clear hK K
            (try simp only [Act.put, List.getElem_toArray, List.getElem_cons_zero, List.getElem_cons_succ, List.setIfInBounds_toArray, List.set_cons_zero, List.set_cons_succ])
            refine wpAnyH_ready (rs := [13]) (by kernel_rfl) (by simp) ?_
            refine AllReadyH.cons rfl (fun K hK => ?_) AllReadyH.nil
            have hs5 : w2.heap.size ≤ (y.alloc (.cells #[.int .i64 0, .string (nmT k), .string (nmN k)] 61)).heap.size := Nat.le_trans hsz (by simp)
            refine step_appR (B := w2.heap.size) (by rfl) (.tmp 26) (.tmp 38) (by rfl) Try.underlying33 Try.infoTItV rfl (by decide) (by decide) _ ((cK k).map itC) y.heap.size [.int .i64 0, .string (nmT k), .string (nmN k)] (by rfl) (by rfl) ho5 rfl (one_item _ _ _) (new3 y _ _ _ _) (by rw [List.length_map, cK_len]; omega) hs5 ?_
            intro v' w6 hO6 hg6 hown
            have hblk := ho.blk
            have hb7 := below_grows hB5 (Nat.le_trans hw2 hs5) hg6 fun q e => Nat.le_trans hw2 (hblk q e).1
            have hsz6 : w2.heap.size ≤ w6.heap.size := Nat.le_trans hs5 hg6.size
            obtain ⟨a6, m6, d6, rfl⟩ := hO6.sl
            refine hK.out _ _ trivial (fun hHeld => ?_)
            clear hK K
            (try simp only [Act.put, List.getElem_toArray, List.getElem_cons_zero, List.getElem_cons_succ, List.setIfInBounds_toArray, List.set_cons_zero, List.set_cons_succ])
            refine wpAnyH_ready (rs := [14]) (by kernel_rfl) (by simp) ?_
            refine AllReadyH.cons rfl (fun K hK => ?_) AllReadyH.nil
            go_simp
            refine hK.out _ _ trivial (fun hHeld => ?_)
            clear hK K
            (try simp only [Act.put, List.getElem_toArray, List.getElem_cons_zero, List.getElem_cons_succ, List.setIfInBounds_toArray, List.set_cons_zero, List.set_cons_succ])
            refine wpAnyH_done (by kernel_rfl) ?_ _
            clear hHeld ho ho5 hBr hB5 cA cB hg6 hown hblk
            go_wp2
            go_roundw
            case rel => exact ⟨k + 1, a6, m6, d6, by omega, by go_num, rfl, by rw [cK_succ, List.map_append]; exact hO6, hb7, hsz6⟩
            case measure => simp only [intOf]; omega
      · obtain rfl : k = n := by omega
        have rI : RowIs eItem (fun _ => True) wr (.slice a m d) (cK k) := OwnR.rowE (e := eItem) ho (by simp) (fun _ _ _ => trivial) fun i h1 h2 => by
          show _ = _
          simp [itC]
        obtain ⟨lm, lmd, ldm⟩ := row_lens rI
        obtain rfl : m = k := by rw [← lm, cK_len]
        obtain ⟨kk, hkk⟩ : ∃ kk, x % m = kk := ⟨_, rfl⟩
        have hkn : kk < m := by rw [← hkk]; exact Nat.mod_lt _ (by omega)
        have nt : (x : Int).tmod (m : Int) = (kk : Int) := by rw [Int.tmod_eq_emod_of_nonneg (by omega), ← hkk]; rfl
        have hwx : IntKind.i64.wrap (x : Int) = (x : Int) := wrapK (by omega) (by omega)
        have hm0 : ((m : Int) == 0) = false := by simp; omega
        have hm0' : decide ((m : Int) = 0) = false := by simp; omega
        have hm0'' : ¬ (m : Int) = 0 := by omega
        have hkI : (kk : Int) < (m : Int) := by omega
        have hk6 : kk ≤ 6 := by omega
        obtain ⟨ib, io, rfl, -, i0, i1, i2⟩ := rI.item1 (k := kk) (by rw [cK_len]; exact hkn)
        have hit : (cK m)[kk]'(by rw [cK_len]; exact hkn) = itK kk := by simp [cK]
        rw [hit] at i0 i1 i2
        obtain ⟨vb, vo, rfl, -, e0, e1, e2⟩ := val1 (HR.out wr hBr) (k := kk) (by omega)
        obtain ⟨X, hX⟩ : ∃ X, V[kk]'(by omega) = X := ⟨_, rfl⟩
        rw [hX] at e0 e1 e2
        have hgX := hG X (by rw [← hX]; exact List.getElem_mem _)
        have hCV : (cK m).length = V.length := by rw [cK_len]; omega
        have hVg : ∀ v ∈ V, Gd v := fun v hv => (hG v hv).1
        have rVf : ∀ w', Below wr.heap.size wr w' → RowIs eVal (fun _ => True) w' (.slice (some ⟨vb, vo, none⟩) m c0) V := fun w' hb => HR.out w' (Below.on hBr hb)
        have rIf : ∀ w', Below wr.heap.size wr w' → RowIs eItem (fun _ => True) w' (.slice (some ⟨ib, io, none⟩) m d) (cK m) := fun w' hb => rI.keep (by decide) fun b _ hl => hb.block b hl
        have HE : Hid (∀ (tb nm : ByteArray) w', Below wr.heap.size wr w' → Calls Try.prog 14 #[.slice (some ⟨ib, io, none⟩) m d, .slice (some ⟨vb, vo, none⟩) m c0, .agg #[.int .i64 2, .int .i64 0, .int .i64 0, .string ⟨#[]⟩, .string tb, .string nm, .slice none 0 0]] w' fun en w'' => en = .returned (.tuple #[vV (evE (cK m) V (xCol tb nm)).1, .int .i64 (evE (cK m) V (xCol tb nm)).2]) ∧ Below w'.heap.size w' w'') := hid fun tb nm w' hb => evalV_any (Q := fun _ => True) (by rw [cK_len]; omega) hCV (fun v hv => (hVg v hv).1) (xCol tb nm) ⟨fits0, trivial⟩ (evT_gd hVg gd_z).2 (rIf w' hb) (rVf w' hb) (cs := exC 2 (0, 0, ⟨#[]⟩, tb, nm) (.slice none 0 0)) ⟨_, _, _, rfl, SlF.nil _ _⟩
        have hcol := cK_col m (by omega) kk hkn
        have hone := cK_one m (by omega) kk hkn
        have HE1 : Hid (∀ w', Below wr.heap.size wr w' → _) := hid fun w' hb => HE.out (nmT kk) (nmN kk) w' hb
        have HE2 : Hid (∀ w', Below wr.heap.size wr w' → _) := hid fun w' hb => HE.out ⟨#[]⟩ (nmN kk) w' hb
        have hkV : kk < V.length := by omega
        rw [evE_col hkV hcol, hX] at HE1
        have HAl : Hid (kk + 1 = m → kk % 2 = 0 → evE (cK m) V (xCol ⟨#[]⟩ (nmN kk)) = (X, 0)) := hid fun h1 h2 => by rw [evE_col hkV (hone h1 h2), hX]
        have HHo : Hid (∀ w1, Below wr.heap.size wr w1 → Calls Try.prog 16 #[.slice (some ⟨ib, io, none⟩) m d, .slice (some ⟨vb, vo, none⟩) m c0, .slice (some ⟨w1.heap.size + 1, 0, none⟩) 1 1] ((w1.alloc (.cells #[.int .i64 2, .int .i64 0, .int .i64 0, .string ⟨#[]⟩, .string (nmT kk), .string (nmN kk), .slice none 0 0, .int .i64 1, .int .i64 X.1, .int .i64 X.2.1, .string X.2.2, .string ⟨#[]⟩, .string ⟨#[]⟩, .slice none 0 0] 41)).alloc (.cells #[.int .i64 8, .int .i64 0, .int .i64 0, .string ⟨#[]⟩, .string ⟨#[]⟩, .string ⟨#[]⟩, .slice (some ⟨w1.heap.size, 0, none⟩) 2 2] 41)) fun en w'' => en = .returned (.tuple #[.bool true, .int .i64 0]) ∧ Below ((w1.alloc (.cells #[.int .i64 2, .int .i64 0, .int .i64 0, .string ⟨#[]⟩, .string (nmT kk), .string (nmN kk), .slice none 0 0, .int .i64 1, .int .i64 X.1, .int .i64 X.2.1, .string X.2.2, .string ⟨#[]⟩, .string ⟨#[]⟩, .slice none 0 0] 41)).alloc (.cells #[.int .i64 8, .int .i64 0, .int .i64 0, .string ⟨#[]⟩, .string ⟨#[]⟩, .string ⟨#[]⟩, .slice (some ⟨w1.heap.size, 0, none⟩) 2 2] 41)).heap.size ((w1.alloc (.cells #[.int .i64 2, .int .i64 0, .int .i64 0, .string ⟨#[]⟩, .string (nmT kk), .string (nmN kk), .slice none 0 0, .int .i64 1, .int .i64 X.1, .int .i64 X.2.1, .string X.2.2, .string ⟨#[]⟩, .string ⟨#[]⟩, .slice none 0 0] 41)).alloc (.cells #[.int .i64 8, .int .i64 0, .int .i64 0, .string ⟨#[]⟩, .string ⟨#[]⟩, .string ⟨#[]⟩, .slice (some ⟨w1.heap.size, 0, none⟩) 2 2] 41)) w'') := hid fun w1 hb => by
          have hb' := bal (bal hb (.cells #[.int .i64 2, .int .i64 0, .int .i64 0, .string ⟨#[]⟩, .string (nmT kk), .string (nmN kk), .slice none 0 0, .int .i64 1, .int .i64 X.1, .int .i64 X.2.1, .string X.2.2, .string ⟨#[]⟩, .string ⟨#[]⟩, .slice none 0 0] 41)) (.cells #[.int .i64 8, .int .i64 0, .int .i64 0, .string ⟨#[]⟩, .string ⟨#[]⟩, .string ⟨#[]⟩, .slice (some ⟨w1.heap.size, 0, none⟩) 2 2] 41)
          have hc2 := cell_new w1 #[.int .i64 2, .int .i64 0, .int .i64 0, .string ⟨#[]⟩, .string (nmT kk), .string (nmN kk), .slice none 0 0, .int .i64 1, .int .i64 X.1, .int .i64 X.2.1, .string X.2.2, .string ⟨#[]⟩, .string ⟨#[]⟩, .slice none 0 0] 41 (0, 0)
          have hc2' := fun j v (h : (w1.alloc (.cells #[.int .i64 2, .int .i64 0, .int .i64 0, .string ⟨#[]⟩, .string (nmT kk), .string (nmN kk), .slice none 0 0, .int .i64 1, .int .i64 X.1, .int .i64 X.2.1, .string X.2.2, .string ⟨#[]⟩, .string ⟨#[]⟩, .slice none 0 0] 41)).cell? ⟨w1.heap.size, j, none⟩ = some v) => cell_later (bal (Below.refl _ _) (.cells #[.int .i64 8, .int .i64 0, .int .i64 0, .string ⟨#[]⟩, .string ⟨#[]⟩, .string ⟨#[]⟩, .slice (some ⟨w1.heap.size, 0, none⟩) 2 2] 41)) h
          have hc7 := cell_new (w1.alloc (.cells #[.int .i64 2, .int .i64 0, .int .i64 0, .string ⟨#[]⟩, .string (nmT kk), .string (nmN kk), .slice none 0 0, .int .i64 1, .int .i64 X.1, .int .i64 X.2.1, .string X.2.2, .string ⟨#[]⟩, .string ⟨#[]⟩, .slice none 0 0] 41)) #[.int .i64 8, .int .i64 0, .int .i64 0, .string ⟨#[]⟩, .string ⟨#[]⟩, .string ⟨#[]⟩, .slice (some ⟨w1.heap.size, 0, none⟩) 2 2] 41 (0, 0)
          rw [World.size_alloc] at hc7
          have hS : SlF (fun _ => True) ((w1.alloc (.cells #[.int .i64 2, .int .i64 0, .int .i64 0, .string ⟨#[]⟩, .string (nmT kk), .string (nmN kk), .slice none 0 0, .int .i64 1, .int .i64 X.1, .int .i64 X.2.1, .string X.2.2, .string ⟨#[]⟩, .string ⟨#[]⟩, .slice none 0 0] 41)).alloc (.cells #[.int .i64 8, .int .i64 0, .int .i64 0, .string ⟨#[]⟩, .string ⟨#[]⟩, .string ⟨#[]⟩, .slice (some ⟨w1.heap.size, 0, none⟩) 2 2] 41)) (some ⟨w1.heap.size, 0, none⟩) 2 2 (xCe (nmT kk) (nmN kk) X).2 := slF2 (p := (2, 0, 0, ⟨#[]⟩, nmT kk, nmN kk)) (q := litV X) ⟨hc2' 0 _ (hc2 0), hc2' 1 _ (hc2 1), hc2' 2 _ (hc2 2), hc2' 3 _ (hc2 3), hc2' 4 _ (hc2 4), hc2' 5 _ (hc2 5), hc2' 6 _ (hc2 6)⟩ (SlF.nil _ _) ⟨hc2' 7 _ (hc2 7), hc2' 8 _ (hc2 8), hc2' 9 _ (hc2 9), hc2' 10 _ (hc2 10), hc2' 11 _ (hc2 11), hc2' 12 _ (hc2 12), hc2' 13 _ (hc2 13)⟩ (SlF.nil _ _)
          have h := holdsV_any (by rw [cK_len]; omega) hCV (fun v hv => (hVg v hv).1) (xCe (nmT kk) (nmN kk) X) ⟨fits0, ⟨fits0, trivial, hgX.1.1, trivial, trivial⟩⟩ (rIf _ hb') (rVf _ hb') (row1_g (x := xCe (nmT kk) (nmN kk) X) (b := w1.heap.size + 1) ⟨hc7 0, hc7 1, hc7 2, hc7 3, hc7 4, hc7 5, hc7 6⟩ hS)
          have hh := hoE_col (V := V) hkV hcol (by rw [hX]; exact hgX.2)
          rw [hX] at hh
          rw [hh] at h
          exact h
        obtain ⟨R2, hR2⟩ : ∃ R, evE (cK m) V (xCol ⟨#[]⟩ (nmN kk)) = R := ⟨_, rfl⟩
        rw [hR2] at HE2 HAl
        clear HE hR2 hcol hone hCV hVg rVf rIf hG hgX HR rI ho hit hX hkV lm hkk i0
        obtain ⟨X0, X1, X2⟩ := X
        dsimp only at *
        go_upto_region 11 with fail
        go_cut [8, 9] (fun v8 v9 w' => ∃ q8, v8 = .pointer (some ⟨q8, 0, none⟩) ∧ v9 = .int .i64 0 ∧ Bk w' q8 (.cells #[.int .i64 X0, .int .i64 X1, .string X2] 38) ∧ Below wr.heap.size wr w')
        case first =>
          clear HE2 HAl HHo e0 e1 e2
          have hY : Below wr.heap.size wr wr.drew := (Below.refl _ wr).drew
          have hib : ib < wr.heap.size := World.block_lt_of_cell? _ _ i1
          refine wp_region_held_drew (S := fun w' => w'.cell? ⟨ib, io + kk * 3 + 1, none⟩ = some (.string (nmT kk)) ∧ w'.cell? ⟨ib, io + kk * 3 + 2, none⟩ = some (.string (nmN kk))) (by kernel_rfl) (⟨cell_later hY i1, cell_later hY i2⟩) (fun hHeld => ?_)
          generalize wr.drew = y at *
          refine wpAnyH_take (i := 0) (v := ?tv1024) rfl (by kernel_rfl) (by kernel_rfl) (by kernel_rfl) (fun _ _ _ h => h) (Or.inl ⟨by rfl, ?hy1024⟩) (by assumption) ?rs1024
          case hy1024 => (intro w9 hSw; (try dsimp only at hSw); go_simp; (try with_reducible rfl))
          (try simp only [Act.put, List.getElem_toArray, List.getElem_cons_zero, List.getElem_cons_succ, List.setIfInBounds_toArray, List.set_cons_zero, List.set_cons_succ])
          refine wpAnyH_take (i := 1) (v := ?tv1025) rfl (by kernel_rfl) (by kernel_rfl) (by kernel_rfl) (fun _ _ _ h => h) (Or.inl ⟨by rfl, ?hy1025⟩) (by assumption) ?rs1025
          case hy1025 => (intro w9 hSw; (try dsimp only at hSw); go_simp; (try with_reducible rfl))
          (try simp only [Act.put, List.getElem_toArray, List.getElem_cons_zero, List.getElem_cons_succ, List.setIfInBounds_toArray, List.set_cons_zero, List.set_cons_succ])
          refine wpAnyH_take (i := 2) (v := ?tv1026) rfl (by kernel_rfl) (by kernel_rfl) (by kernel_rfl) (fun _ _ _ h => h) (Or.inl ⟨by rfl, ?hy1026⟩) (by assumption) ?rs1026
          case hy1026 => (intro w9 hSw; (try dsimp only at hSw); go_simp; (try with_reducible rfl))
          (try simp only [Act.put, List.getElem_toArray, List.getElem_cons_zero, List.getElem_cons_succ, List.setIfInBounds_toArray, List.set_cons_zero, List.set_cons_succ])
          refine wpAnyH_take (i := 3) (v := ?tv1027) rfl (by kernel_rfl) (by kernel_rfl) (by kernel_rfl) (fun _ _ _ h => h) (Or.inl ⟨by rfl, ?hy1027⟩) (by assumption) ?rs1027
          case hy1027 => (intro w9 hSw; (try dsimp only at hSw); go_simp; (try with_reducible rfl))
          (try simp only [Act.put, List.getElem_toArray, List.getElem_cons_zero, List.getElem_cons_succ, List.setIfInBounds_toArray, List.set_cons_zero, List.set_cons_succ])
          refine wpAnyH_take (i := 4) (v := ?tv1028) rfl (by kernel_rfl) (by kernel_rfl) (by kernel_rfl) (fun _ _ _ h => h) (Or.inl ⟨by rfl, ?hy1028⟩) (by assumption) ?rs1028
          case hy1028 => (intro w9 hSw; (try dsimp only at hSw); go_simp; (try with_reducible rfl))
          (try simp only [Act.put, List.getElem_toArray, List.getElem_cons_zero, List.getElem_cons_succ, List.setIfInBounds_toArray, List.set_cons_zero, List.set_cons_succ])
          refine wpAnyH_take (i := 5) (v := ?tv1029) rfl (by kernel_rfl) (by kernel_rfl) (by kernel_rfl) (fun _ _ _ h => h) (Or.inl ⟨by rfl, ?hy1029⟩) (by assumption) ?rs1029
          case hy1029 => (intro w9 hSw; (try dsimp only at hSw); go_simp; (try with_reducible rfl))
          (try simp only [Act.put, List.getElem_toArray, List.getElem_cons_zero, List.getElem_cons_succ, List.setIfInBounds_toArray, List.set_cons_zero, List.set_cons_succ])
          refine wpAnyH_take (i := 6) (v := ?tv1030) rfl (by kernel_rfl) (by kernel_rfl) (by kernel_rfl) (fun _ _ _ h => h) (Or.inl ⟨by rfl, ?hy1030⟩) (by assumption) ?rs1030
          case hy1030 => (intro w9 hSw; (try dsimp only at hSw); go_simp; (try with_reducible rfl))
          (try simp only [Act.put, List.getElem_toArray, List.getElem_cons_zero, List.getElem_cons_succ, List.setIfInBounds_toArray, List.set_cons_zero, List.set_cons_succ])
          refine wpAnyH_take (i := 7) (v := ?tv1031) rfl (by kernel_rfl) (by kernel_rfl) (by kernel_rfl) (fun _ _ _ h => h) (Or.inl ⟨by rfl, ?hy1031⟩) (by assumption) ?rs1031
          case hy1031 => (intro w9 hSw; (try dsimp only at hSw); go_simp; (try with_reducible rfl))
          (try simp only [Act.put, List.getElem_toArray, List.getElem_cons_zero, List.getElem_cons_succ, List.setIfInBounds_toArray, List.set_cons_zero, List.set_cons_succ])
          refine wpAnyH_take (i := 8) (v := ?tv1032) rfl (by kernel_rfl) (by kernel_rfl) (by kernel_rfl) (fun _ _ _ h => h) (Or.inl ⟨by rfl, ?hy1032⟩) (by assumption) ?rs1032
          case hy1032 => (intro w9 hSw; (try dsimp only at hSw); go_simp; (try with_reducible rfl))
          (try simp only [Act.put, List.getElem_toArray, List.getElem_cons_zero, List.getElem_cons_succ, List.setIfInBounds_toArray, List.set_cons_zero, List.set_cons_succ])
          refine wpAnyH_take (i := 9) (v := ?tv1033) rfl (by kernel_rfl) (by kernel_rfl) (by kernel_rfl) (fun _ _ _ h => h) (Or.inl ⟨by rfl, ?hy1033⟩) (by assumption) ?rs1033
          case hy1033 => (intro w9 hSw; (try dsimp only at hSw); go_simp; (try with_reducible rfl))
          (try simp only [Act.put, List.getElem_toArray, List.getElem_cons_zero, List.getElem_cons_succ, List.setIfInBounds_toArray, List.set_cons_zero, List.set_cons_succ])
          refine wpAnyH_take (i := 10) (v := ?tv1034) rfl (by kernel_rfl) (by kernel_rfl) (by kernel_rfl) (fun _ _ _ h => h) (Or.inl ⟨by rfl, ?hy1034⟩) (by assumption) ?rs1034
          case hy1034 => (intro w9 hSw; (try dsimp only at hSw); go_simp; (try with_reducible rfl))
          (try simp only [Act.put, List.getElem_toArray, List.getElem_cons_zero, List.getElem_cons_succ, List.setIfInBounds_toArray, List.set_cons_zero, List.set_cons_succ])
          refine wpAnyH_take (i := 11) (v := ?tv1035) rfl (by kernel_rfl) (by kernel_rfl) (by kernel_rfl) (fun _ _ _ h => h) (Or.inl ⟨by rfl, ?hy1035⟩) (by assumption) ?rs1035
          case hy1035 => (intro w9 hSw; (try dsimp only at hSw); go_simp; (try with_reducible rfl))
          (try simp only [Act.put, List.getElem_toArray, List.getElem_cons_zero, List.getElem_cons_succ, List.setIfInBounds_toArray, List.set_cons_zero, List.set_cons_succ])
          refine wpAnyH_take (i := 12) (v := ?tv1036) rfl (by kernel_rfl) (by kernel_rfl) (by kernel_rfl) (fun _ _ _ h => h) (Or.inl ⟨by rfl, ?hy1036⟩) (by assumption) ?rs1036
          case hy1036 => (intro w9 hSw; (try dsimp only at hSw); go_simp; (try with_reducible rfl))
          (try simp only [Act.put, List.getElem_toArray, List.getElem_cons_zero, List.getElem_cons_succ, List.setIfInBounds_toArray, List.set_cons_zero, List.set_cons_succ])
          refine wpAnyH_ready (rs := [13, 17]) (by kernel_rfl) (by simp) ?_
          refine AllReadyH.cons rfl (fun K hK => ?_) (AllReadyH.cons rfl (fun K hK => ?_) AllReadyH.nil)
          · go_simp
            go_wp2_with (first | (go_at_call 14; (refine Calls.mono (HE1.out _ hY) ?_); rintro e y ⟨rfl, hby⟩; replace hY := Below.on hY hby))
            refine hK.out _ _ (⟨cell_later hY i1, cell_later hY i2⟩) (fun hHeld => ?_)
            clear hK K
            (try simp only [Act.put, List.getElem_toArray, List.getElem_cons_zero, List.getElem_cons_succ, List.setIfInBounds_toArray, List.set_cons_zero, List.set_cons_succ])
            refine wpAnyH_take (i := 14) (v := ?tv1018) rfl (by kernel_rfl) (by kernel_rfl) (by kernel_rfl) (fun _ _ _ h => h) (Or.inl ⟨by rfl, ?hy1018⟩) (by assumption) ?rs1018
            case hy1018 => (intro w9 hSw; (try dsimp only at hSw); go_simp; (try with_reducible rfl))
            (try simp only [Act.put, List.getElem_toArray, List.getElem_cons_zero, List.getElem_cons_succ, List.setIfInBounds_toArray, List.set_cons_zero, List.set_cons_succ])
            refine wpAnyH_take (i := 15) (v := ?tv1019) rfl (by kernel_rfl) (by kernel_rfl) (by kernel_rfl) (fun _ _ _ h => h) (Or.inl ⟨by rfl, ?hy1019⟩) (by assumption) ?rs1019
            case hy1019 => (intro w9 hSw; (try dsimp only at hSw); go_simp; (try with_reducible rfl))
            (try simp only [Act.put, List.getElem_toArray, List.getElem_cons_zero, List.getElem_cons_succ, List.setIfInBounds_toArray, List.set_cons_zero, List.set_cons_succ])
            refine wpAnyH_take (i := 16) (v := ?tv1020) rfl (by kernel_rfl) (by kernel_rfl) (by kernel_rfl) (fun _ _ _ h => h) (Or.inl ⟨by rfl, ?hy1020⟩) (by assumption) ?rs1020
            case hy1020 => (intro w9 hSw; (try dsimp only at hSw); go_simp; (try with_reducible rfl))
            (try simp only [Act.put, List.getElem_toArray, List.getElem_cons_zero, List.getElem_cons_succ, List.setIfInBounds_toArray, List.set_cons_zero, List.set_cons_succ])
            refine wpAnyH_ready (rs := [17]) (by kernel_rfl) (by simp) ?_
            refine AllReadyH.cons rfl (fun K hK => ?_) AllReadyH.nil
            go_simp
            have b8 := Bk.new y zV
            obtain ⟨q8, hq8⟩ : ∃ q8, y.heap.size = q8 := ⟨_, rfl⟩
            have hq8w : ib < q8 := by rw [← hq8]; exact Nat.lt_of_lt_of_le hib hY.size
            have hq8v : wr.heap.size ≤ q8 := by rw [← hq8]; exact hY.size
            replace hY := bal hY zV
            refine hK.out _ _ (⟨cell_later hY i1, cell_later hY i2⟩) (fun hHeld => ?_)
            clear hK K
            (try simp only [Act.put, List.getElem_toArray, List.getElem_cons_zero, List.getElem_cons_succ, List.setIfInBounds_toArray, List.set_cons_zero, List.set_cons_succ])
            rw [hq8] at b8
            (try rw [hq8])
            clear hq8
            generalize y.alloc zV = y at *
            refine wpAnyH_ready (rs := [18]) (by kernel_rfl) (by simp) ?_
            refine AllReadyH.cons rfl (fun K hK => ?_) AllReadyH.nil
            have hth : y.there q8 0 3 := b8.there rfl
            rw [if_pos (by rfl)]
            refine wp_store_mid _ _ _ rfl q8 0 (List.toArray [.int .i64 X0, .int .i64 X1, .string X2]) rfl rfl hth (by kernel_rfl) (by simp [Value.oneCell']) ?_
            show K _ (stW y q8 [.int .i64 X0, .int .i64 X1, .string X2])
            refine hK.out _ _ (⟨stW_far (by omega) (cell_later hY i1), stW_far (by omega) (cell_later hY i2)⟩) (fun hHeld => ?_)
            clear hK K hth
            (try simp only [Act.put, List.getElem_toArray, List.getElem_cons_zero, List.getElem_cons_succ, List.setIfInBounds_toArray, List.set_cons_zero, List.set_cons_succ])
            refine wpAnyH_ready (rs := [19]) (by kernel_rfl) (by simp) ?_
            refine AllReadyH.cons rfl (fun K hK => ?_) AllReadyH.nil
            go_simp
            refine hK.out _ _ (⟨stW_far (by omega) (cell_later hY i1), stW_far (by omega) (cell_later hY i2)⟩) (fun hHeld => ?_)
            clear hK K
            (try simp only [Act.put, List.getElem_toArray, List.getElem_cons_zero, List.getElem_cons_succ, List.setIfInBounds_toArray, List.set_cons_zero, List.set_cons_succ])
            refine wpAnyH_done (by kernel_rfl) ?_ _
            clear hHeld
            have bq := b8.st3 (.int .i64 X0) (.int .i64 X1) (.string X2)
            have hBY := stW_below (l := [.int .i64 X0, .int .i64 X1, .string X2]) hY hq8v
            (try go_wp2_with fail)
            go_meet
            exact ⟨q8, rfl, rfl, bq, hBY⟩
          · go_simp
            have b8 := Bk.new y zV
            obtain ⟨q8, hq8⟩ : ∃ q8, y.heap.size = q8 := ⟨_, rfl⟩
            have hq8w : ib < q8 := by rw [← hq8]; exact Nat.lt_of_lt_of_le hib hY.size
            have hq8v : wr.heap.size ≤ q8 := by rw [← hq8]; exact hY.size
            replace hY := bal hY zV
            refine hK.out _ _ (⟨cell_later hY i1, cell_later hY i2⟩) (fun hHeld => ?_)
            clear hK K
            (try simp only [Act.put, List.getElem_toArray, List.getElem_cons_zero, List.getElem_cons_succ, List.setIfInBounds_toArray, List.set_cons_zero, List.set_cons_succ])
            rw [hq8] at b8
            (try rw [hq8])
            clear hq8
            generalize y.alloc zV = y at *
            refine wpAnyH_ready (rs := [13]) (by kernel_rfl) (by simp) ?_
            refine AllReadyH.cons rfl (fun K hK => ?_) AllReadyH.nil
            go_simp
            go_wp2_with (first | (go_at_call 14; (refine Calls.mono (HE1.out _ hY) ?_); rintro e y ⟨rfl, hby⟩; replace b8 := b8.later hby; replace hY := Below.on hY hby))
            refine hK.out _ _ (⟨cell_later hY i1, cell_later hY i2⟩) (fun hHeld => ?_)
            clear hK K
            (try simp only [Act.put, List.getElem_toArray, List.getElem_cons_zero, List.getElem_cons_succ, List.setIfInBounds_toArray, List.set_cons_zero, List.set_cons_succ])
            refine wpAnyH_take (i := 14) (v := ?tv1021) rfl (by kernel_rfl) (by kernel_rfl) (by kernel_rfl) (fun _ _ _ h => h) (Or.inl ⟨by rfl, ?hy1021⟩) (by assumption) ?rs1021
            case hy1021 => (intro w9 hSw; (try dsimp only at hSw); go_simp; (try with_reducible rfl))
            (try simp only [Act.put, List.getElem_toArray, List.getElem_cons_zero, List.getElem_cons_succ, List.setIfInBounds_toArray, List.set_cons_zero, List.set_cons_succ])
            refine wpAnyH_take (i := 15) (v := ?tv1022) rfl (by kernel_rfl) (by kernel_rfl) (by kernel_rfl) (fun _ _ _ h => h) (Or.inl ⟨by rfl, ?hy1022⟩) (by assumption) ?rs1022
            case hy1022 => (intro w9 hSw; (try dsimp only at hSw); go_simp; (try with_reducible rfl))
            (try simp only [Act.put, List.getElem_toArray, List.getElem_cons_zero, List.getElem_cons_succ, List.setIfInBounds_toArray, List.set_cons_zero, List.set_cons_succ])
            refine wpAnyH_take (i := 16) (v := ?tv1023) rfl (by kernel_rfl) (by kernel_rfl) (by kernel_rfl) (fun _ _ _ h => h) (Or.inl ⟨by rfl, ?hy1023⟩) (by assumption) ?rs1023
            case hy1023 => (intro w9 hSw; (try dsimp only at hSw); go_simp; (try with_reducible rfl))
            (try simp only [Act.put, List.getElem_toArray, List.getElem_cons_zero, List.getElem_cons_succ, List.setIfInBounds_toArray, List.set_cons_zero, List.set_cons_succ])
            refine wpAnyH_ready (rs := [18]) (by kernel_rfl) (by simp) ?_
            refine AllReadyH.cons rfl (fun K hK => ?_) AllReadyH.nil
            have hth : y.there q8 0 3 := b8.there rfl
            rw [if_pos (by rfl)]
            refine wp_store_mid _ _ _ rfl q8 0 (List.toArray [.int .i64 X0, .int .i64 X1, .string X2]) rfl rfl hth (by kernel_rfl) (by simp [Value.oneCell']) ?_
            show K _ (stW y q8 [.int .i64 X0, .int .i64 X1, .string X2])
            refine hK.out _ _ (⟨stW_far (by omega) (cell_later hY i1), stW_far (by omega) (cell_later hY i2)⟩) (fun hHeld => ?_)
            clear hK K hth
            (try simp only [Act.put, List.getElem_toArray, List.getElem_cons_zero, List.getElem_cons_succ, List.setIfInBounds_toArray, List.set_cons_zero, List.set_cons_succ])
            refine wpAnyH_ready (rs := [19]) (by kernel_rfl) (by simp) ?_
            refine AllReadyH.cons rfl (fun K hK => ?_) AllReadyH.nil
            go_simp
            refine hK.out _ _ (⟨stW_far (by omega) (cell_later hY i1), stW_far (by omega) (cell_later hY i2)⟩) (fun hHeld => ?_)
            clear hK K
            (try simp only [Act.put, List.getElem_toArray, List.getElem_cons_zero, List.getElem_cons_succ, List.setIfInBounds_toArray, List.set_cons_zero, List.set_cons_succ])
            refine wpAnyH_done (by kernel_rfl) ?_ _
            clear hHeld
            have bq := b8.st3 (.int .i64 X0) (.int .i64 X1) (.string X2)
            have hBY := stW_below (l := [.int .i64 X0, .int .i64 X1, .string X2]) hY hq8v
            (try go_wp2_with fail)
            go_meet
            exact ⟨q8, rfl, rfl, bq, hBY⟩
        case rest =>
        obtain ⟨q8, rfl, rfl, b8, hC⟩ := hcut
        replace i1 := cell_later hC i1
        replace i2 := cell_later hC i2
        replace e0 := cell_later hC e0
        replace e1 := cell_later hC e1
        replace e2 := cell_later hC e2
        obtain ⟨AL, hAL⟩ : ∃ AL, (decide (kk + 1 = m) && decide (kk % 2 = 0)) = AL := ⟨_, rfl⟩
        have hwn : IntKind.i64.wrap ((m : Int) - 1) = (m : Int) - 1 := wrapK (by omega) (by omega)
        have HAl2 : Hid (AL = true → R2 = ((X0, X1, X2), 0)) := hid fun h => by
          rw [h, Bool.and_eq_true, decide_eq_true_eq, decide_eq_true_eq] at hAL
          exact HAl.out hAL.1 hAL.2
        clear HAl HE1
        go_upto_region 12 with fail
        go_cut [10] (fun v10 w' => v10 = .bool AL ∧ wc = w')
        case first =>
          clear HE2 HHo HAl2
          by_cases h1 : kk + 1 = m
          · have g1 : (kk : Int) = (m : Int) - 1 := by omega
            have g2 : decide ((kk : Int) = (m : Int) - 1) = true := by simpa using g1
            have g3 : ((kk : Int) == (m : Int) - 1) = true := by simpa using g1
            by_cases h2 : kk % 2 = 0
            · obtain rfl : AL = true := by rw [← hAL]; simp [h1, h2]
              have n2 : (kk : Int).tmod 2 = 0 := by rw [Int.tmod_eq_emod_of_nonneg (by omega)]; omega
              replace g1 : Hid _ := hid g1
              clear hAL
              go_wp2_with fail
              go_meet
              exact ⟨rfl, rfl⟩
            · obtain rfl : AL = false := by rw [← hAL]; simp [h2]
              have n2 : (kk : Int).tmod 2 = 1 := by rw [Int.tmod_eq_emod_of_nonneg (by omega)]; omega
              replace g1 : Hid _ := hid g1
              clear hAL
              go_wp2_with fail
              go_meet
              exact ⟨rfl, rfl⟩
          · obtain rfl : AL = false := by rw [← hAL]; simp [h1]
            have g1 : ¬ (kk : Int) = (m : Int) - 1 := by omega
            have g2 : decide ((kk : Int) = (m : Int) - 1) = false := by simpa using g1
            have g3 : ((kk : Int) == (m : Int) - 1) = false := by simpa using g1
            clear hAL
            go_wp2_with fail
            go_meet
            exact ⟨rfl, rfl⟩
        case rest =>
        obtain ⟨rfl, hwc⟩ := hcut
        subst hwc
        clear hAL
        go_wp2_with fail
        refine Calls.mono (HE2.out _ hC) ?_
        rintro e w5 ⟨rfl, hb5⟩
        have hb6 := bal hb5 (.cells #[.int .i64 R2.1.1, .int .i64 R2.1.2.1, .string R2.1.2.2] 38)
        have b11 := Bk.new w5 (.cells #[.int .i64 R2.1.1, .int .i64 R2.1.2.1, .string R2.1.2.2] 38)
        clear HE2
        go_upto_region 14 with fail
        generalize w5.alloc (.cells #[.int .i64 R2.1.1, .int .i64 R2.1.2.1, .string R2.1.2.2] 38) = Y at *
        obtain ⟨q11, hq11⟩ : ∃ q11, w5.heap.size = q11 := ⟨_, rfl⟩
        rw [hq11] at b11
        (try rw [hq11])
        clear hq11
        replace hC := Below.on hC hb6
        replace b8 := b8.later hb6
        replace i1 := cell_later hb6 i1
        replace i2 := cell_later hb6 i2
        replace e0 := cell_later hb6 e0
        replace e1 := cell_later hb6 e1
        replace e2 := cell_later hb6 e2
        clear hb5 hb6
        have HHo2 : Hid (∀ w1, Below Y.heap.size Y w1 → _) := hid fun w1 hb => HHo.out w1 (Below.on hC hb)
        clear HHo
        have hY : Below Y.heap.size Y Y.drew := (Below.refl _ Y).drew
        refine wp_region_held_drew (S := fun w' => w'.cell? ⟨ib, io + kk * 3 + 1, none⟩ = some (.string (nmT kk)) ∧ w'.cell? ⟨ib, io + kk * 3 + 2, none⟩ = some (.string (nmN kk)) ∧ w'.cell? ⟨vb, vo + kk * 3, none⟩ = some (.int .i64 X0) ∧ w'.cell? ⟨vb, vo + kk * 3 + 1, none⟩ = some (.int .i64 X1) ∧ w'.cell? ⟨vb, vo + kk * 3 + 2, none⟩ = some (.string X2)) (by kernel_rfl) (⟨cell_later hY i1, cell_later hY i2, cell_later hY e0, cell_later hY e1, cell_later hY e2⟩) (fun hHeld => ?_)
        generalize Y.drew = y at *
        refine wpAnyH_take (i := 0) (v := ?tv1037) rfl (by kernel_rfl) (by kernel_rfl) (by kernel_rfl) (fun _ _ _ h => h) (Or.inl ⟨by rfl, ?hy1037⟩) (by assumption) ?rs1037
        case hy1037 => (intro w9 hSw; (try dsimp only at hSw); go_simp; (try with_reducible rfl))
        (try simp only [Act.put, List.getElem_toArray, List.getElem_cons_zero, List.getElem_cons_succ, List.setIfInBounds_toArray, List.set_cons_zero, List.set_cons_succ])
        refine wpAnyH_take (i := 1) (v := ?tv1038) rfl (by kernel_rfl) (by kernel_rfl) (by kernel_rfl) (fun _ _ _ h => h) (Or.inl ⟨by rfl, ?hy1038⟩) (by assumption) ?rs1038
        case hy1038 => (intro w9 hSw; (try dsimp only at hSw); go_simp; (try with_reducible rfl))
        (try simp only [Act.put, List.getElem_toArray, List.getElem_cons_zero, List.getElem_cons_succ, List.setIfInBounds_toArray, List.set_cons_zero, List.set_cons_succ])
        refine wpAnyH_take (i := 2) (v := ?tv1039) rfl (by kernel_rfl) (by kernel_rfl) (by kernel_rfl) (fun _ _ _ h => h) (Or.inl ⟨by rfl, ?hy1039⟩) (by assumption) ?rs1039
        case hy1039 => (intro w9 hSw; (try dsimp only at hSw); go_simp; (try with_reducible rfl))
        (try simp only [Act.put, List.getElem_toArray, List.getElem_cons_zero, List.getElem_cons_succ, List.setIfInBounds_toArray, List.set_cons_zero, List.set_cons_succ])
        refine wpAnyH_take (i := 3) (v := ?tv1040) rfl (by kernel_rfl) (by kernel_rfl) (by kernel_rfl) (fun _ _ _ h => h) (Or.inl ⟨by rfl, ?hy1040⟩) (by assumption) ?rs1040
        case hy1040 => (intro w9 hSw; (try dsimp only at hSw); go_simp; (try with_reducible rfl))
        (try simp only [Act.put, List.getElem_toArray, List.getElem_cons_zero, List.getElem_cons_succ, List.setIfInBounds_toArray, List.set_cons_zero, List.set_cons_succ])
        refine wpAnyH_take (i := 4) (v := ?tv1041) rfl (by kernel_rfl) (by kernel_rfl) (by kernel_rfl) (fun _ _ _ h => h) (Or.inl ⟨by rfl, ?hy1041⟩) (by assumption) ?rs1041
        case hy1041 => (intro w9 hSw; (try dsimp only at hSw); go_simp; (try with_reducible rfl))
        (try simp only [Act.put, List.getElem_toArray, List.getElem_cons_zero, List.getElem_cons_succ, List.setIfInBounds_toArray, List.set_cons_zero, List.set_cons_succ])
        refine wpAnyH_take (i := 5) (v := ?tv1042) rfl (by kernel_rfl) (by kernel_rfl) (by kernel_rfl) (fun _ _ _ h => h) (Or.inl ⟨by rfl, ?hy1042⟩) (by assumption) ?rs1042
        case hy1042 => (intro w9 hSw; (try dsimp only at hSw); go_simp; (try with_reducible rfl))
        (try simp only [Act.put, List.getElem_toArray, List.getElem_cons_zero, List.getElem_cons_succ, List.setIfInBounds_toArray, List.set_cons_zero, List.set_cons_succ])
        refine wpAnyH_take (i := 6) (v := ?tv1043) rfl (by kernel_rfl) (by kernel_rfl) (by kernel_rfl) (fun _ _ _ h => h) (Or.inl ⟨by rfl, ?hy1043⟩) (by assumption) ?rs1043
        case hy1043 => (intro w9 hSw; (try dsimp only at hSw); go_simp; (try with_reducible rfl))
        (try simp only [Act.put, List.getElem_toArray, List.getElem_cons_zero, List.getElem_cons_succ, List.setIfInBounds_toArray, List.set_cons_zero, List.set_cons_succ])
        refine wpAnyH_take (i := 7) (v := ?tv1044) rfl (by kernel_rfl) (by kernel_rfl) (by kernel_rfl) (fun _ _ _ h => h) (Or.inl ⟨by rfl, ?hy1044⟩) (by assumption) ?rs1044
        case hy1044 => (intro w9 hSw; (try dsimp only at hSw); go_simp; (try with_reducible rfl))
        (try simp only [Act.put, List.getElem_toArray, List.getElem_cons_zero, List.getElem_cons_succ, List.setIfInBounds_toArray, List.set_cons_zero, List.set_cons_succ])
        refine wpAnyH_take (i := 8) (v := ?tv1045) rfl (by kernel_rfl) (by kernel_rfl) (by kernel_rfl) (fun _ _ _ h => h) (Or.inl ⟨by rfl, ?hy1045⟩) (by assumption) ?rs1045
        case hy1045 => (intro w9 hSw; (try dsimp only at hSw); go_simp; (try with_reducible rfl))
        (try simp only [Act.put, List.getElem_toArray, List.getElem_cons_zero, List.getElem_cons_succ, List.setIfInBounds_toArray, List.set_cons_zero, List.set_cons_succ])
        refine wpAnyH_take (i := 9) (v := ?tv1046) rfl (by kernel_rfl) (by kernel_rfl) (by kernel_rfl) (fun _ _ _ h => h) (Or.inl ⟨by rfl, ?hy1046⟩) (by assumption) ?rs1046
        case hy1046 => (intro w9 hSw; (try dsimp only at hSw); go_simp; (try with_reducible rfl))
        (try simp only [Act.put, List.getElem_toArray, List.getElem_cons_zero, List.getElem_cons_succ, List.setIfInBounds_toArray, List.set_cons_zero, List.set_cons_succ])
        refine wpAnyH_take (i := 10) (v := ?tv1047) rfl (by kernel_rfl) (by kernel_rfl) (by kernel_rfl) (fun _ _ _ h => h) (Or.inl ⟨by rfl, ?hy1047⟩) (by assumption) ?rs1047
        case hy1047 => (intro w9 hSw; (try dsimp only at hSw); go_simp; (try with_reducible rfl))
        (try simp only [Act.put, List.getElem_toArray, List.getElem_cons_zero, List.getElem_cons_succ, List.setIfInBounds_toArray, List.set_cons_zero, List.set_cons_succ])
        refine wpAnyH_take (i := 11) (v := ?tv1048) rfl (by kernel_rfl) (by kernel_rfl) (by kernel_rfl) (fun _ _ _ h => h) (Or.inl ⟨by rfl, ?hy1048⟩) (by assumption) ?rs1048
        case hy1048 => (intro w9 hSw; (try dsimp only at hSw); go_simp; (try with_reducible rfl))
        (try simp only [Act.put, List.getElem_toArray, List.getElem_cons_zero, List.getElem_cons_succ, List.setIfInBounds_toArray, List.set_cons_zero, List.set_cons_succ])
        refine wpAnyH_take (i := 12) (v := ?tv1049) rfl (by kernel_rfl) (by kernel_rfl) (by kernel_rfl) (fun _ _ _ h => h) (Or.inl ⟨by rfl, ?hy1049⟩) (by assumption) ?rs1049
        case hy1049 => (intro w9 hSw; (try dsimp only at hSw); go_simp; (try with_reducible rfl))
        (try simp only [Act.put, List.getElem_toArray, List.getElem_cons_zero, List.getElem_cons_succ, List.setIfInBounds_toArray, List.set_cons_zero, List.set_cons_succ])
        refine wpAnyH_take (i := 13) (v := ?tv1050) rfl (by kernel_rfl) (by kernel_rfl) (by kernel_rfl) (fun _ _ _ h => h) (Or.inl ⟨by rfl, ?hy1050⟩) (by assumption) ?rs1050
        case hy1050 => (intro w9 hSw; (try dsimp only at hSw); go_simp; (try with_reducible rfl))
        (try simp only [Act.put, List.getElem_toArray, List.getElem_cons_zero, List.getElem_cons_succ, List.setIfInBounds_toArray, List.set_cons_zero, List.set_cons_succ])
        refine wpAnyH_take (i := 14) (v := ?tv1051) rfl (by kernel_rfl) (by kernel_rfl) (by kernel_rfl) (fun _ _ _ h => h) (Or.inl ⟨by rfl, ?hy1051⟩) (by assumption) ?rs1051
        case hy1051 => (intro w9 hSw; (try dsimp only at hSw); go_simp; (try with_reducible rfl))
        (try simp only [Act.put, List.getElem_toArray, List.getElem_cons_zero, List.getElem_cons_succ, List.setIfInBounds_toArray, List.set_cons_zero, List.set_cons_succ])
        refine wpAnyH_take (i := 15) (v := ?tv1052) rfl (by kernel_rfl) (by kernel_rfl) (by kernel_rfl) (fun _ _ _ h => h) (Or.inl ⟨by rfl, ?hy1052⟩) (by assumption) ?rs1052
        case hy1052 => (intro w9 hSw; (try dsimp only at hSw); go_simp; (try with_reducible rfl))
        (try simp only [Act.put, List.getElem_toArray, List.getElem_cons_zero, List.getElem_cons_succ, List.setIfInBounds_toArray, List.set_cons_zero, List.set_cons_succ])
        refine wpAnyH_take (i := 16) (v := ?tv1053) rfl (by kernel_rfl) (by kernel_rfl) (by kernel_rfl) (fun _ _ _ h => h) (Or.inl ⟨by rfl, ?hy1053⟩) (by assumption) ?rs1053
        case hy1053 => (intro w9 hSw; (try dsimp only at hSw); go_simp; (try with_reducible rfl))
        (try simp only [Act.put, List.getElem_toArray, List.getElem_cons_zero, List.getElem_cons_succ, List.setIfInBounds_toArray, List.set_cons_zero, List.set_cons_succ])
        refine wpAnyH_take (i := 17) (v := ?tv1054) rfl (by kernel_rfl) (by kernel_rfl) (by kernel_rfl) (fun _ _ _ h => h) (Or.inl ⟨by rfl, ?hy1054⟩) (by assumption) ?rs1054
        case hy1054 => (intro w9 hSw; (try dsimp only at hSw); go_simp; (try with_reducible rfl))
        (try simp only [Act.put, List.getElem_toArray, List.getElem_cons_zero, List.getElem_cons_succ, List.setIfInBounds_toArray, List.set_cons_zero, List.set_cons_succ])
        refine wpAnyH_ready (rs := [18]) (by kernel_rfl) (by simp) ?_
        refine AllReadyH.cons rfl (fun K hK => ?_) AllReadyH.nil
        go_simp
        have hY1 := bal hY (.cells #[.int .i64 2, .int .i64 0, .int .i64 0, .string ⟨#[]⟩, .string (nmT kk), .string (nmN kk), .slice none 0 0, .int .i64 1, .int .i64 X0, .int .i64 X1, .string X2, .string ⟨#[]⟩, .string ⟨#[]⟩, .slice none 0 0] 41)
        refine hK.out _ _ (⟨cell_later hY1 i1, cell_later hY1 i2, cell_later hY1 e0, cell_later hY1 e1, cell_later hY1 e2⟩) (fun hHeld => ?_)
        clear hK K
        (try simp only [Act.put, List.getElem_toArray, List.getElem_cons_zero, List.getElem_cons_succ, List.setIfInBounds_toArray, List.set_cons_zero, List.set_cons_succ])
        refine wpAnyH_take (i := 19) (v := ?tv1055) rfl (by kernel_rfl) (by kernel_rfl) (by kernel_rfl) (fun _ _ _ h => h) (Or.inl ⟨by rfl, ?hy1055⟩) (by assumption) ?rs1055
        case hy1055 => (intro w9 hSw; (try dsimp only at hSw); go_simp; (try with_reducible rfl))
        (try simp only [Act.put, List.getElem_toArray, List.getElem_cons_zero, List.getElem_cons_succ, List.setIfInBounds_toArray, List.set_cons_zero, List.set_cons_succ])
        refine wpAnyH_ready (rs := [20]) (by kernel_rfl) (by simp) ?_
        refine AllReadyH.cons rfl (fun K hK => ?_) AllReadyH.nil
        go_simp
        have hY2 := bal hY1 (.cells #[.int .i64 8, .int .i64 0, .int .i64 0, .string ⟨#[]⟩, .string ⟨#[]⟩, .string ⟨#[]⟩, .slice (some ⟨y.heap.size, 0, none⟩) 2 2] 41)
        refine hK.out _ _ (⟨cell_later hY2 i1, cell_later hY2 i2, cell_later hY2 e0, cell_later hY2 e1, cell_later hY2 e2⟩) (fun hHeld => ?_)
        clear hK K
        (try simp only [Act.put, List.getElem_toArray, List.getElem_cons_zero, List.getElem_cons_succ, List.setIfInBounds_toArray, List.set_cons_zero, List.set_cons_succ])
        refine wpAnyH_ready (rs := [21]) (by kernel_rfl) (by simp) ?_
        refine AllReadyH.cons rfl (fun K hK => ?_) AllReadyH.nil
        go_simp
        go_wp2_with (first | (go_at_call 16; (refine Calls.mono (HHo2.out y hY) ?_); rintro e y3 ⟨rfl, hby⟩))
        replace hY := Below.on hY2 hby
        refine hK.out _ _ (⟨cell_later hY i1, cell_later hY i2, cell_later hY e0, cell_later hY e1, cell_later hY e2⟩) (fun hHeld => ?_)
        clear hK K hby hY1 hY2
        (try simp only [Act.put, List.getElem_toArray, List.getElem_cons_zero, List.getElem_cons_succ, List.setIfInBounds_toArray, List.set_cons_zero, List.set_cons_succ])
        refine wpAnyH_take (i := 22) (v := ?tv1056) rfl (by kernel_rfl) (by kernel_rfl) (by kernel_rfl) (fun _ _ _ h => h) (Or.inl ⟨by rfl, ?hy1056⟩) (by assumption) ?rs1056
        case hy1056 => (intro w9 hSw; (try dsimp only at hSw); go_simp; (try with_reducible rfl))
        (try simp only [Act.put, List.getElem_toArray, List.getElem_cons_zero, List.getElem_cons_succ, List.setIfInBounds_toArray, List.set_cons_zero, List.set_cons_succ])
        refine wpAnyH_take (i := 23) (v := ?tv1057) rfl (by kernel_rfl) (by kernel_rfl) (by kernel_rfl) (fun _ _ _ h => h) (Or.inl ⟨by rfl, ?hy1057⟩) (by assumption) ?rs1057
        case hy1057 => (intro w9 hSw; (try dsimp only at hSw); go_simp; (try with_reducible rfl))
        (try simp only [Act.put, List.getElem_toArray, List.getElem_cons_zero, List.getElem_cons_succ, List.setIfInBounds_toArray, List.set_cons_zero, List.set_cons_succ])
        refine wpAnyH_take (i := 24) (v := ?tv1058) rfl (by kernel_rfl) (by kernel_rfl) (by kernel_rfl) (fun _ _ _ h => h) (Or.inl ⟨by rfl, ?hy1058⟩) (by assumption) ?rs1058
        case hy1058 => (intro w9 hSw; (try dsimp only at hSw); go_simp; (try with_reducible rfl))
        (try simp only [Act.put, List.getElem_toArray, List.getElem_cons_zero, List.getElem_cons_succ, List.setIfInBounds_toArray, List.set_cons_zero, List.set_cons_succ])
        refine wpAnyH_ready (rs := [25]) (by kernel_rfl) (by simp) ?_
        refine AllReadyH.cons rfl (fun K hK => ?_) AllReadyH.nil
        go_simp
        refine hK.out _ _ (⟨cell_later hY i1, cell_later hY i2, cell_later hY e0, cell_later hY e1, cell_later hY e2⟩) (fun hHeld => ?_)
        clear hK K
        (try simp only [Act.put, List.getElem_toArray, List.getElem_cons_zero, List.getElem_cons_succ, List.setIfInBounds_toArray, List.set_cons_zero, List.set_cons_succ])
        refine wpAnyH_ready (rs := [26]) (by kernel_rfl) (by simp) ?_
        refine AllReadyH.cons rfl (fun K hK => ?_) AllReadyH.nil
        go_simp
        refine hK.out _ _ (⟨cell_later hY i1, cell_later hY i2, cell_later hY e0, cell_later hY e1, cell_later hY e2⟩) (fun hHeld => ?_)
        clear hK K
        (try simp only [Act.put, List.getElem_toArray, List.getElem_cons_zero, List.getElem_cons_succ, List.setIfInBounds_toArray, List.set_cons_zero, List.set_cons_succ])
        refine wpAnyH_done (by kernel_rfl) ?_ _
        clear hHeld
        replace b8 := b8.later hY
        replace b11 := b11.later hY
        replace e0 := cell_later hY e0
        replace e1 := cell_later hY e1
        replace e2 := cell_later hY e2
        replace hBr := Below.on hBr (Below.on hC hY)
        have x0 := b8.cell 0
        have x1 := b8.cell 1
        have x2 := b8.cell 2
        have z0 := b11.cell 0
        have z1 := b11.cell 1
        have z2 := b11.cell 2
        simp only [List.getElem?_toArray, List.getElem?_cons_zero, List.getElem?_cons_succ] at x0 x1 x2 z0 z1 z2
        have hrq := fun w => runV_eq X0 X1 X2 w
        clear b8 b11 hC hY HHo2 i1 i2
        cases AL with
        | true =>
          obtain rfl := HAl2.out rfl
          clear HAl2
          go_wp2
          go_quiet (fail)
          go_wp2
          go_ret
          exact ⟨rfl, below_drewN hBr _⟩
        | false =>
          clear HAl2
          go_wp2
          go_quiet (fail)
          go_wp2
          go_ret
          exact ⟨rfl, below_drewN hBr _⟩

end Go.Proofs.Ytbmfehacnigknaa
