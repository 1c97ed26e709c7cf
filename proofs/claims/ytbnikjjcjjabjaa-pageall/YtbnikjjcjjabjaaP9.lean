/- PageFills. -/
import Derived.Test.YtbnikjjcjjabjaaP8
import Derived.Laws.MakeOwn
namespace Go.Proofs.Ytbnikjjcjjabjaa
open Go.RowKit
set_option linter.unusedVariables false

theorem hid {p : Prop} (h : p) : Hid p := h
theorem Try.info5m : (Try.prog.info? 5).map (fun i => (i.zero, i.size, i.bytes)) = some (some (.int .u8 0), 1, 1) := by kernel_rfl

/-- Zeros, as cells. -/
def zc (k : Nat) : Array Value := ((List.replicate k (0 : Int)).map (Value.int .u8)).toArray
theorem make_any (k : Nat) (h : k ≤ 100000) (w : World) : (Instr.makeSlice 32 (.int .i64 (k : Int)) (.int .i64 (k : Int))).run Try.prog w = .ok (.slice (some ⟨w.heap.size, 0, none⟩) k k) (w.alloc (.cells (zc k) 5)) := by
  obtain ⟨i, hi, hz, hs, hb⟩ := info_parts Try.info5m
  have hr := run_make (P := Try.prog) w 32 5 i (.int .u8 0) Try.underlying32 hi hz .i64 .i64 (k : Int) (k : Int) (by omega) (by omega) (by rw [hb]; omega) (by omega)
  rw [hr, hs]
  have e : madeCells (Value.int .u8 0).cells ((k : Int).toNat * 1) = zc k := by
    rw [show (Value.int .u8 0).cells = #[Value.int .u8 0] from rfl, zc]
    apply Array.ext
    · simp [madeCells]
    · intro j h1 h2
      simp [madeCells, Nat.mod_one]
  rw [e]
  simp
theorem Rd.zeros (w : World) (k : Nat) (h : k ≤ 1000) : Rd .u8 (w.alloc (.cells (zc k) 5)) (some ⟨w.heap.size, 0, none⟩) k k (List.replicate k 0) := by
  have := Rd.new w (List.replicate k 0) (by simp; omega)
  rw [List.length_replicate] at this
  exact this

/-- Each slot has a record. -/
def Full (R : List (List Int)) : Prop := ∀ s, s < R.length → rc R s ≠ []
theorem full_nil : Full [] := fun s h => by simp at h
theorem full_vac {R : List (List Int)} (h : Full R) : vac R = R.length := (vac_eq h (rc_out (Nat.le_refl _))).symm
theorem full_snoc {R : List (List Int)} (h : Full R) {b : List Int} (hb : b ≠ []) : Full (R ++ [b]) := fun s hs => by
  by_cases e : s < R.length
  · have : rc (R ++ [b]) s = rc R s := by simp [rc, List.getElem?_append_left e]
    rw [this]; exact h s e
  · have e2 : s = R.length := by simp at hs; omega
    subst e2
    have : rc (R ++ [b]) R.length = b := by simp [rc]
    rw [this]; exact hb
theorem full_put {R : List (List Int)} (h : Full R) {b : List Int} (h0 : 0 < b.length) (h1 : b.length ≤ 200) (hf : (b.length : Int) + 4 ≤ freeR R) : layE R (vac R) b = 0 ∧ putS R b = (R.length : Int) ∧ layR R (vac R) b = R ++ [b] ∧ freeR (R ++ [b]) = freeR R - (b.length : Int) - 4 := by
  have hs : setR R R.length b = R ++ [b] := by rw [setR, if_neg (by omega)]
  have hfr := setR_free (R := R) (s := R.length) (Nat.le_refl _) b
  rw [if_neg (by omega), rc_out (Nat.le_refl _), hs] at hfr
  have he : layE R (vac R) b = 0 := layE_ok (by omega) h1 (by rw [full_vac h, hs, hfr]; simp; omega)
  refine ⟨he, by rw [putS, if_pos he, full_vac h], by rw [layR, if_pos he, full_vac h, hs], by rw [hfr]; simp⟩
theorem full_full {R : List (List Int)} (h : Full R) {b : List Int} (h0 : 0 < b.length) (h1 : b.length ≤ 200) (hf : freeR R < (b.length : Int) + 4) : layE R (vac R) b = 25 ∧ layR R (vac R) b = R := by
  have hs : setR R R.length b = R ++ [b] := by rw [setR, if_neg (by omega)]
  have hfr := setR_free (R := R) (s := R.length) (Nat.le_refl _) b
  rw [if_neg (by omega), rc_out (Nat.le_refl _), hs] at hfr
  have he : layE R (vac R) b = 25 := layE_full (by omega) h1 (by rw [full_vac h, hs, hfr]; simp; omega)
  exact ⟨he, by rw [layR, he, if_neg (by decide)]⟩
theorem full_drop {R : List (List Int)} (h : Full R) {m : Nat} (hm : R.length = m + 1) : trimR (R.set m []) = R.take m ∧ Full (R.take m) ∧ (R.take m).length = m := by
  have hl : (R.take m).length = m := by simp; omega
  refine ⟨?_, fun s hs => by rw [rc_take (by omega)]; exact h s (by omega), hl⟩
  have e1 : rc (R.set m []) m = [] := by simp [rc, hm]
  have e2 : tr (R.set m []) (m + 1) = m := by
    rw [tr, if_pos e1]
    cases m with
    | zero => rfl
    | succ k =>
      rw [tr, if_neg]
      have : rc (R.set (k + 1) []) k = rc R k := by simp [rc]
      rw [this]; exact h k (by omega)
  rw [trimR, List.length_set, hm, e2, List.take_set_of_le (Nat.le_refl _)]

theorem My.other {W w w' : World} {g q : Nat} {R : List (List Int)} (h : My W w g R) (hr : Rest q w w') (hq : W.heap.size ≤ q) (hne : g ≠ q) : My W w' g R := by
  obtain ⟨B, p⟩ := h.pg
  exact ⟨⟨B, p.rest hr hne⟩, h.own, Rest.below h.bel hr hq h.bel.size⟩

/-- A zero page is as a new one. -/
theorem my_page {W w : World} {g : Nat} {R : List (List Int)} (h : My W w g R) {Z : Array Value} (hZ : Z = ((List.replicate 256 (0 : Int)).map (Value.int .u8)).toArray) :
    My W (w.alloc (.cells Z 49)) w.heap.size [] ∧ My W (w.alloc (.cells Z 49)) g R ∧ g < w.heap.size :=
  ⟨⟨⟨_, ⟨⟨by rw [← hZ]; exact heap_alloc_last w _⟩, Iv.new⟩⟩, h.bel.size, bthen h.bel ((Below.refl _ _).alloc (Nat.le_refl _) _)⟩, h.alloc _, h.lt⟩

set_option maxRecDepth 100000 in
set_option maxHeartbeats 1000000 in
theorem pageFills_any {W : World} {a : Option Addr} {n c : Nat} {xs : List Int} (hx : Rd .u8 W a n c xs) (hxb : By xs) :
    Calls Try.prog 4 #[.slice a n c] W fun e w' => e = .returned (.bool true) ∧ Below W.heap.size W w' := by
  have HB : Hid _ := begun_any W
  by_cases hn : n ≤ 60
  · have g1 : ¬ (60 : Int) < (n : Int) := by omega
    have g0 : decide ((60 : Int) < (n : Int)) = false := decide_eq_false g1
    have HN : Hid (∀ w', Below W.heap.size W w' → _) := fun w' hb => my_new W w' hb
    go_enter Try.func4, Try.ntmps4
    go_wp2_with fail
    refine Calls.mono HB.out ?_
    rintro e w0 ⟨rfl, hb0⟩
    go_wp2_with fail
    refine Calls.mono (HN.out _ hb0) ?_
    rintro e w1 ⟨g, rfl, m1, -⟩
    clear HN HB hb0
    go_wp2
    go_loopw [4] (fun i wr => ∃ t : Nat, t ≤ 2 ∧ i = .int .i64 (t : Int) ∧ My W wr g []) (fun i wr => 2 - (intOf i).toNat)
    case atStart => exact ⟨0, by omega, rfl, m1⟩
    case round =>
      obtain ⟨t, ht, rfl, m2⟩ := hrel
      clear m1
      by_cases htl : t < 2
      · have gt1 : decide ((t : Int) < 2) = true := decide_eq_true (by omega)
        have gt2 : (t : Int) < 2 := by omega
        go_wp2
        generalize wr = wz at *
        go_loopw [5, 6, 7] (fun f k j wr => ∃ (j' m fr : Nat) (R : List (List Int)), j' ≤ n ∧ j = .int .i64 (j' : Int) ∧ k = .int .i64 (m : Int) ∧ f = .int .i64 (fr : Int) ∧ fr ≤ 248 ∧ m ≤ 62 ∧ Hid (R.length = m) ∧ Hid (freeR R = (fr : Int)) ∧ Hid (Full R) ∧ My W wr g R) (fun f k j wr => n - (intOf j).toNat)
        case atStart => exact ⟨0, 0, 248, [], Nat.zero_le _, rfl, rfl, rfl, by omega, by omega, rfl, hid (by decide), full_nil, m2⟩
        case round =>
          obtain ⟨j, m, fr, R, hj, rfl, rfl, rfl, hfr1, hm1, hRl, hRf, hRF, m3⟩ := hrel
          clear m2
          by_cases hjl : j < n
          · have hx2 := hx.later m3.bel
            obtain ⟨b, o, ha, hcc⟩ := hx2.cells (by omega)
            have hc0 := hcc j hjl
            obtain ⟨y0, y1⟩ := hxb.nth j
            obtain ⟨y, hy⟩ : ∃ y, nth xs j = y := ⟨_, rfl⟩
            rw [hy] at hc0 y0 y1
            obtain ⟨k, hk⟩ : ∃ k : Nat, (1 : Int) + y % 60 = (k : Int) := ⟨(1 + y % 60).toNat, by omega⟩
            have hk1 : 1 ≤ k := by omega
            have hk2 : k ≤ 60 := by omega
            have HMK := make_any k (by omega)
            obtain ⟨z, hz⟩ : ∃ z, zc k = z := ⟨_, rfl⟩
            rw [hz] at HMK
            replace hz : Hid _ := hz
            have hsz := m3.lt
            clear hcc hy hx2
            by_cases hful : fr < k + 4
            · have hput : ∀ w, My W w g R → Calls Try.prog 9 #[.pointer (some ⟨g, 0, none⟩), .slice (some ⟨w.heap.size, 0, none⟩) k k] (w.alloc (.cells z 5)) fun e w' => e = .returned (.tuple #[.int .i64 0, .int .i64 25]) ∧ My W w' g R := fun w hw => by
                have h1 := hw.alloc (.cells z 5)
                obtain ⟨B, p⟩ := h1.pg
                obtain ⟨f1, f2⟩ := full_full hRF.out (b := List.replicate k 0) (by simp; omega) (by simp; omega) (by rw [hRf.out]; simp; omega)
                have := put_any p (by rw [← hz.out]; exact Rd.zeros w k (by omega)) (by_zeros k) (fun a ha => by cases ha; have := hw.lt; show w.heap.size ≠ g; omega)
                rw [f1, f2, show putS R (List.replicate k 0) = 0 from by rw [putS, f1]; rfl] at this
                refine Calls.mono this ?_
                rintro e w' ⟨rfl, hp, hr⟩
                exact ⟨rfl, h1.turn hr hp⟩
              replace hput : Hid _ := hput
              have g5 : (fr : Int) < (k : Int) + 4 := by omega
              subst ha
              clear hz
              go_wp2_with fail
              refine Calls.mono (hput.out _ m3) ?_
              rintro e w4 ⟨rfl, m4⟩
              clear hput m3
              go_wp2
              go_roundw
              case rel => exact ⟨j + 1, m, fr, R, hjl, by go_num, rfl, rfl, hfr1, hm1, hRl, hRf, hRF, m4⟩
              case measure => simp [intOf]; omega
            · have hput : ∀ w, My W w g R → Calls Try.prog 9 #[.pointer (some ⟨g, 0, none⟩), .slice (some ⟨w.heap.size, 0, none⟩) k k] (w.alloc (.cells z 5)) fun e w' => e = .returned (.tuple #[.int .i64 (m : Int), .int .i64 0]) ∧ My W w' g (R ++ [List.replicate k 0]) := fun w hw => by
                have h1 := hw.alloc (.cells z 5)
                obtain ⟨B, p⟩ := h1.pg
                obtain ⟨f1, f2, f3, f4⟩ := full_put hRF.out (b := List.replicate k 0) (by simp; omega) (by simp; omega) (by rw [hRf.out]; simp; omega)
                have := put_any p (by rw [← hz.out]; exact Rd.zeros w k (by omega)) (by_zeros k) (fun a ha => by cases ha; have := hw.lt; show w.heap.size ≠ g; omega)
                rw [f1, f2, f3, hRl.out] at this
                refine Calls.mono this ?_
                rintro e w' ⟨rfl, hp, hr⟩
                exact ⟨rfl, h1.turn hr hp⟩
              obtain ⟨R2, hR2⟩ : ∃ R2, R ++ [List.replicate k 0] = R2 := ⟨_, rfl⟩
              have hR2l : R2.length = m + 1 := by rw [← hR2]; simp [hRl.out]
              have hR2F : Full R2 := by rw [← hR2]; exact full_snoc hRF.out (by intro e; have := congrArg List.length e; simp at this; omega)
              have hR2f : freeR R2 = ((fr - k - 4 : Nat) : Int) := by
                have f4 := (full_put hRF.out (b := List.replicate k 0) (by simp; omega) (by simp; omega) (by rw [hRf.out]; simp; omega)).2.2.2
                rw [← hR2, f4, hRf.out]; simp; omega
              rw [hR2] at hput
              replace hput : Hid _ := hput
              replace hR2l : Hid _ := hR2l
              replace hR2F : Hid _ := hR2F
              replace hR2f : Hid _ := hR2f
              have hm2 : m + 1 ≤ 62 := by
                have h9 := hR2f.out
                have h8 := hR2l.out
                simp only [freeR] at h9
                omega
              subst ha
              clear hR2 hRl hRf hRF hz
              go_wp2_with fail
              refine Calls.mono (hput.out _ m3) ?_
              rintro e w4 ⟨rfl, m4⟩
              obtain ⟨f2, hf2⟩ : ∃ f2, fr - k - 4 = f2 := ⟨_, rfl⟩
              rw [hf2] at hR2f
              have e1 : (fr : Int) - (k : Int) - 4 = (f2 : Int) := by omega
              have hf3 : f2 ≤ 248 := by omega
              have g5 : ¬ (fr : Int) < (k : Int) + 4 := by omega
              obtain ⟨B4, p4⟩ := m4.pg
              have HF := free_any p4
              rw [hR2f.out] at HF
              replace HF : Hid _ := HF
              clear hput m3 p4
              go_wp2_with fail
              refine Calls.mono HF.out ?_
              rintro e w5 ⟨rfl, hb5⟩
              have m5 := m4.later hb5
              clear HF m4 hb5
              go_wp2
              go_roundw
              case rel => exact ⟨j + 1, m + 1, f2, R2, hjl, by go_num, by first | rfl | go_num, by first | rfl | go_num, hf3, hm2, hR2l, hR2f, hR2F, m5⟩
              case measure => simp [intOf]; omega
          · obtain rfl : j = n := by omega
            go_wp2
            generalize wr = wy at *
            go_loopw [11] (fun i wr => ∃ (m : Nat) (R : List (List Int)), i = .int .i64 ((m : Int) - 1) ∧ m ≤ 62 ∧ Hid (R.length = m) ∧ Hid (Full R) ∧ My W wr g R) (fun i wr => (intOf i + 1).toNat)
            case atStart => exact ⟨m, R, rfl, hm1, hRl, hRF, m3⟩
            case round =>
              clear hRl hRf hRF m3 hm1
              obtain ⟨m, R, rfl, hm1, hRl, hRF, m3⟩ := hrel
              rcases m with _ | m
              · obtain rfl : R = [] := List.eq_nil_of_length_eq_zero hRl.out
                go_wp2
                go_roundw
                case rel => exact ⟨t + 1, by omega, by go_num, m3⟩
                case measure => simp [intOf]; omega
              · have hdr : ∀ w, My W w g R → Calls Try.prog 13 #[.pointer (some ⟨g, 0, none⟩), .int .i64 (m : Int)] w fun e w' => e = .returned (.int .i64 0) ∧ My W w' g (R.take m) := fun w hw => by
                  obtain ⟨B, p⟩ := hw.pg
                  have := drop_any p m (hRF.out m (by rw [hRl.out]; omega))
                  rw [(full_drop hRF.out hRl.out).1] at this
                  refine Calls.mono this ?_
                  rintro e w' ⟨rfl, hp, hr⟩
                  exact ⟨rfl, hw.turn hr hp⟩
                have hF2 : Hid _ := (full_drop hRF.out hRl.out).2.1
                have hl2 : Hid _ := (full_drop hRF.out hRl.out).2.2
                replace hdr : Hid _ := hdr
                have e1 : (((m + 1 : Nat) : Int) - 1) = (m : Int) := by omega
                rw [e1]
                clear e1
                go_wp2_with fail
                refine Calls.mono (hdr.out _ m3) ?_
                rintro e w4 ⟨rfl, m4⟩
                clear hdr m3
                go_wp2
                go_roundw
                case rel => exact ⟨m, _, rfl, by omega, hl2, hF2, m4⟩
                case measure => simp [intOf]
      · obtain rfl : t = 2 := by omega
        clear hx hxb
        go_wp2_with fail
        refine Calls.mono (put_nil _ _) ?_
        rintro e w3 ⟨rfl, rfl⟩
        have m3 := m2.alloc (.cells #[Value.int IntKind.u8 1] 5)
        go_wp2_with fail
        refine Calls.mono (get_nil _ _) ?_
        rintro e w3 ⟨rfl, rfl⟩
        obtain ⟨wn, hwn⟩ : ∃ wn, wr.alloc (.cells #[Value.int IntKind.u8 1] 5) = wn := ⟨_, rfl⟩
        rw [hwn] at m3 ⊢
        clear hwn m2
        obtain ⟨Z, hZ, hs, hz, hi⟩ := zero_page
        have mz := my_page m3 hZ
        clear hZ hs hi
        go_upto_region 33 with fail
        obtain ⟨mz1, mz2, hgl⟩ := mz
        have hrd := Rd.new (wn.alloc (.cells Z 49)) [1] (by decide)
        have ma := mz1.alloc (.cells (([1] : List Int).map (Value.int .u8)).toArray 5)
        have mb := mz2.alloc (.cells (([1] : List Int).map (Value.int .u8)).toArray 5)
        obtain ⟨Ba, pa⟩ := ma.pg
        have HP := put_any pa hrd (by intro x hx; simp at hx; omega) (fun a ha => by cases ha; simp)
        rw [show layE [] (vac []) [1] = 0 from by decide, show layR [] (vac []) [1] = [[1]] from by decide, show putS [] [1] = 0 from by decide] at HP
        clear pa hrd m3
        obtain ⟨q, hq⟩ : ∃ q, wn.heap.size = q := ⟨_, rfl⟩
        have hgq : g ≠ q := by omega
        obtain ⟨wa, hwa⟩ : ∃ wa, (wn.alloc (.cells Z 49)) = wa := ⟨_, rfl⟩
        rw [hwa] at ma mb HP ⊢
        rw [hq] at ma HP ⊢
        replace HP : Hid _ := HP
        replace ma : Hid _ := ma
        replace mb : Hid _ := mb
        clear mz1 mz2 hgl hwa hq hz
        go_wp2_with fail
        refine Calls.mono HP.out ?_
        rintro e w4 ⟨rfl, hp4, hr4⟩
        have mc := ma.out.turn hr4 hp4
        have md := mb.out.other hr4 ma.out.own hgq
        clear ma mb HP hr4 hp4
        obtain ⟨B1, p1⟩ := md.pg
        have HF1 := free_any p1
        rw [show freeR [] = 248 from by decide] at HF1
        replace HF1 : Hid _ := HF1
        clear p1
        go_wp2_with fail
        refine Calls.mono HF1.out ?_
        rintro e w5 ⟨rfl, hb5⟩
        have me := mc.later hb5
        clear mc md HF1 hb5
        go_wp2_with fail
        refine Calls.mono (set_nil _ _ _) ?_
        rintro e w6 ⟨rfl, rfl⟩
        go_wp2_with fail
        refine Calls.mono (drop_nil _ _) ?_
        rintro e w6 ⟨rfl, rfl⟩
        go_wp2_with fail
        refine Calls.mono (slots_nil _) ?_
        rintro e w6 ⟨rfl, rfl⟩
        go_wp2_with fail
        refine Calls.mono (bytes_nil _) ?_
        rintro e w6 ⟨rfl, rfl⟩
        go_wp2_with fail
        refine Calls.mono (free_nil _) ?_
        rintro e w6 ⟨rfl, rfl⟩
        obtain ⟨B2, p2⟩ := me.pg
        have HF2 := free_any p2
        rw [show freeR [[1]] = 243 from by decide] at HF2
        replace HF2 : Hid _ := HF2
        clear p2
        go_wp2_with fail
        refine Calls.mono HF2.out ?_
        rintro e w7 ⟨rfl, hb7⟩
        have mf := me.later hb7
        clear me HF2 hb7
        go_wp2
        go_ret
        exact ⟨rfl, mf.bel⟩
  · have g1 : (60 : Int) < (n : Int) := by omega
    go_enter Try.func4, Try.ntmps4
    go_wp2_with fail
    refine Calls.mono HB.out ?_
    rintro e w0 ⟨rfl, hb0⟩
    go_wp2
    go_ret
    exact ⟨rfl, hb0⟩

end Go.Proofs.Ytbnikjjcjjabjaa
