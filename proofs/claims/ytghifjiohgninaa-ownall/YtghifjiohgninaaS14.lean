/- The walk of the library's Compact at tags that do not fall: each once. -/
import Derived.Test.YtghifjiohgninaaS13
import Derived.Test.YtghifjiohgninaaLists
namespace Go.Proofs.Ytghifjiohgninaa
open Go.RowKit
open Go.Sort (swp PermIn SortedIn ltInt)
set_option linter.unusedVariables false

/-- How far the tags have been made single: of the first m of d there are k, in c. -/
structure CI (d c : Array Int) (k m : Nat) : Prop where
  size : c.size = d.size
  k1 : 1 ≤ k
  km : k ≤ m
  mn : m ≤ d.size
  rest : ∀ j, k ≤ j → c[j]! = d[j]!
  strict : ∀ i j, i < j → j < k → c[i]! < c[j]!
  mem : ∀ z, (∃ i, i < k ∧ c[i]! = z) ↔ (∃ i, i < m ∧ d[i]! = z)
  last : c[k - 1]! = d[m - 1]!

theorem CI.start {d : Array Int} (h : 1 ≤ d.size) : CI d d 1 1 :=
  ⟨rfl, Nat.le_refl _, Nat.le_refl _, h, fun _ _ => rfl, fun i j h1 h2 => by omega, fun z => Iff.rfl, rfl⟩

theorem CI.dup {d c : Array Int} {k m : Nat} (h : CI d c k m) (hm : m < d.size) (he : d[m]! = d[m - 1]!) : CI d c k (m + 1) := by
  have h1 := h.k1; have h2 := h.km
  refine ⟨h.size, h.k1, by omega, by omega, h.rest, h.strict, fun z => ?_, by rw [h.last, Nat.add_sub_cancel, he]⟩
  rw [h.mem]
  constructor
  · rintro ⟨i, hi, e⟩; exact ⟨i, by omega, e⟩
  · rintro ⟨i, hi, e⟩
    by_cases hi' : i < m
    · exact ⟨i, hi', e⟩
    · obtain rfl : i = m := by omega
      exact ⟨i - 1, by omega, by rw [← he]; exact e⟩

theorem set_same {c : Array Int} {k : Nat} {x : Int} (h : k < c.size) : (c.setIfInBounds k x)[k]! = x := by
  rw [getElem!_pos _ k (by simpa using h), Array.getElem_setIfInBounds_self]
theorem set_ne {c : Array Int} {k j : Nat} {x : Int} (h : k ≠ j) : (c.setIfInBounds k x)[j]! = c[j]! := by
  by_cases hj : j < c.size
  · rw [getElem!_pos _ j (by simpa using hj), getElem!_pos _ j hj, Array.getElem_setIfInBounds_ne _ h]
  · rw [getElem!_neg _ j (by simpa using hj), getElem!_neg _ j hj]

theorem CI.more {d c : Array Int} {k m : Nat} (h : CI d c k m) (hm : m < d.size) (he : d[m - 1]! < d[m]!) : CI d (c.setIfInBounds k d[m]!) (k + 1) (m + 1) := by
  have h1 := h.k1; have h2 := h.km; have h3 := h.size
  have hs : (c.setIfInBounds k d[m]!)[k]! = d[m]! := set_same (by omega)
  have hn : ∀ j, j ≠ k → (c.setIfInBounds k d[m]!)[j]! = c[j]! := fun j hj => set_ne (Ne.symm hj)
  refine ⟨by simpa using h.size, by omega, by omega, by omega, fun j hj => by rw [hn j (by omega)]; exact h.rest j (by omega), fun i j h4 h5 => ?_, fun z => ?_, by rw [Nat.add_sub_cancel, Nat.add_sub_cancel, hs]⟩
  · by_cases e : j = k
    · subst e
      rw [hs, hn i (by omega)]
      by_cases e2 : i = j - 1
      · subst e2; rw [h.last]; exact he
      · have := h.strict i (j - 1) (by omega) (by omega); rw [h.last] at this; omega
    · rw [hn i (by omega), hn j e]; exact h.strict i j h4 (by omega)
  · constructor
    · rintro ⟨i, hi, e⟩
      by_cases e2 : i = k
      · subst e2; rw [hs] at e; exact ⟨m, by omega, e⟩
      · rw [hn i e2] at e
        obtain ⟨i', hi', e'⟩ := (h.mem z).1 ⟨i, by omega, e⟩
        exact ⟨i', by omega, e'⟩
    · rintro ⟨i, hi, e⟩
      by_cases e2 : i = m
      · subst e2; exact ⟨k, by omega, by rw [hs]; exact e⟩
      · obtain ⟨i', hi', e'⟩ := (h.mem z).2 ⟨i, by omega, e⟩
        exact ⟨i', by omega, by rw [hn i' (by omega)]; exact e'⟩

theorem CI.stay {d : Array Int} {k : Nat} (h : CI d d k k) (hm : k < d.size) (he : d[k - 1]! < d[k]!) : CI d d (k + 1) (k + 1) := by
  have := h.more hm he
  rwa [show d.setIfInBounds k d[k]! = d from by
    apply Array.ext (by simp)
    intro i h1 h2
    by_cases e : k = i
    · subst e; rw [Array.getElem_setIfInBounds_self, getElem!_pos _ k hm]
    · rw [Array.getElem_setIfInBounds_ne _ e]] at this

/-- What is left of the row: its first k tags. -/
theorem CI.ends {d c : Array Int} {k : Nat} (h : CI d c k d.size) : Up (c.toList.take k) ∧ (∀ z, z ∈ c.toList.take k ↔ z ∈ d.toList) ∧ (c.toList.take k).length = k := by
  have h1 := h.km; have h2 := h.size
  have hl : (c.toList.take k).length = k := by simp; omega
  have hg : ∀ i (hi : i < k), (c.toList.take k)[i]'(by omega) = c[i]! := fun i hi => by
    rw [List.getElem_take, Array.getElem_toList, getElem!_pos c i (by omega)]
  have hd : ∀ z, z ∈ d.toList ↔ ∃ i, i < d.size ∧ d[i]! = z := fun z => by
    rw [List.mem_iff_getElem]
    constructor
    · rintro ⟨i, hi, e⟩; exact ⟨i, by simpa using hi, by rw [← e, Array.getElem_toList, getElem!_pos d i (by simpa using hi)]⟩
    · rintro ⟨i, hi, e⟩; exact ⟨i, by simpa using hi, by rw [← e, Array.getElem_toList, getElem!_pos d i hi]⟩
  refine ⟨?_, fun z => ?_, hl⟩
  · rw [Up, List.pairwise_iff_getElem]
    intro i j hi hj hij
    rw [hg i (by omega), hg j (by omega)]
    exact h.strict i j hij (by omega)
  · rw [hd, ← h.mem, List.mem_iff_getElem]
    constructor
    · rintro ⟨i, hi, e⟩; exact ⟨i, by omega, by rw [← hg i (by omega)]; exact e⟩
    · rintro ⟨i, hi, e⟩; exact ⟨i, by omega, by rw [hg i hi]; exact e⟩

theorem SW.take {g cap : Nat} {w0 w : World} {c : Array Int} (h : SW g cap w0 w c) (k : Nat) : SW g cap w0 w (c.toList.take k).toArray := by
  refine ⟨h.os, h.tape, h.output, h.size, h.other, ?_⟩
  obtain ⟨cur, hc, hs, hd, hj⟩ := h.row
  refine ⟨cur, hc, hs, by simp; omega, fun j hj' => ?_⟩
  have hjk : j < k ∧ j < c.size := by simp at hj'; omega
  rw [hj j hjk.2, getElem!_pos _ j hjk.2, getElem!_pos _ j hj']
  simp

theorem SW.sets {g cap : Nat} {w0 : World} {c : Array Int} : ∀ (m o : Nat) (w : World), SW g cap w0 w c → c.size ≤ o → SW g cap w0 (w.setCells g o (List.replicate m (.int .u16 0))) c
  | 0, _, _, h, _ => h
  | m + 1, o, w, h, ho => by
    rw [List.replicate_succ, World.setCells]
    have h2 := h.set o 0
    rw [show c.setIfInBounds o 0 = c from by
      apply Array.ext (by simp)
      intro i h1 h2
      rw [Array.getElem_setIfInBounds_ne _ (by omega)]] at h2
    exact SW.sets m (o + 1) _ h2 (by omega)

set_option maxRecDepth 100000 in
set_option maxHeartbeats 4000000 in
theorem compact_any (g cap n : Nat) (d : Array Int) (w0 w : World) (h : SW g cap w0 w d) (hso : SortedIn ltInt 0 n d) (h2 : 2 ≤ n) (hn : d.size = n) (hn2 : n ≤ 1000) (hcap : n ≤ cap) (hmax : cap ≤ 9223372036854775807) :
    Calls Try.prog 29 #[.slice (some ⟨g, 0, none⟩) n cap] w fun e w' => ∃ ys : List Int, e = .returned (.slice (some ⟨g, 0, none⟩) ys.length cap) ∧ Up ys ∧ (∀ z, z ∈ ys ↔ z ∈ d.toList) ∧ ys.length ≤ n ∧ SW g cap w0 w' ys.toArray := by
  subst hn
  have HSo : Hid (SortedIn ltInt 0 d.size d) := hso
  clear hso
  go_enter Try.func29, Try.ntmps29
  have g0 : decide ((d.size : Int) < 2) = false := by simp; omega
  go_wp2
  go_loopw [3] (fun v3 wr => ∃ k : Nat, v3 = .int .i64 k ∧ 1 ≤ k ∧ k ≤ d.size ∧ SW g cap w0 wr d ∧ Hid (CI d d k k)) (fun v3 _ => d.size - (intOf v3).toNat)
  case atStart => exact ⟨1, rfl, Nat.le_refl _, by omega, h, CI.start (by omega)⟩
  case round =>
    clear h
    obtain ⟨k, rfl, hk1, hkn, hS, HC⟩ := hrel
    by_cases hlt : k < d.size
    · obtain ⟨q, rfl⟩ : ∃ q, k = q + 1 := ⟨k - 1, by omega⟩
      have g1 : decide ((q : Int) + 1 < (d.size : Int)) = true := by simp; omega
      have c1 := hS.cell (j := q + 1) (by omega)
      have c0 := hS.cell (j := q) (by omega)
      have i1 : (q : Int) + 1 < (d.size : Int) := by omega
      have i0 : (q : Int) < (d.size : Int) := by omega
      obtain ⟨x, hx⟩ : ∃ x, x = d[q + 1]! := ⟨_, rfl⟩
      obtain ⟨y, hy⟩ : ∃ y, y = d[q]! := ⟨_, rfl⟩
      have hyx : y ≤ x := by
        have := sorted_iff.1 HSo.out q (q + 1) (Nat.zero_le _) (by omega) hlt
        rw [← hx, ← hy] at this; exact this
      rw [← hx] at c1
      rw [← hy] at c0
      by_cases hxy : x = y
      · have HC2 : Hid (CI d d (q + 1) (q + 1 + 1)) := HC.out.dup hlt (by rw [Nat.add_sub_cancel, ← hx, ← hy]; exact hxy)
        have hd : decide (x = y) = true := by simp [hxy]
        clear hx hy HC hyx
        go_wp2
        go_quiet (fail)
        go_wp2
        obtain ⟨L, hL⟩ : ∃ L, d.size - (q + 1) = L := ⟨_, rfl⟩
        obtain ⟨C, hC⟩ : ∃ C, cap - (q + 1) = C := ⟨_, rfl⟩
        have hL1 : q + 1 + L ≤ d.size := by omega
        have hL2 : d.size ≤ q + 1 + L := by omega
        have hC1 : L ≤ C := by omega
        have hC2 : C ≤ cap := by omega
        rw [hL, hC]
        clear hL hC
        have hS0 := hS.drewN nq
        clear hS c1 c0
        generalize wr.drewN nq = wi at *
        go_loopw [3, 5] (fun v3 v5 wr => ∃ kk k2 : Nat, ∃ c : Array Int, v3 = .int .i64 kk ∧ v5 = .int .i64 k2 ∧ 1 ≤ kk ∧ 1 ≤ k2 ∧ k2 ≤ L ∧ kk ≤ q + k2 ∧ SW g cap w0 wr c ∧ c.size = d.size ∧ Hid (CI d c kk (q + 1 + k2))) (fun _ v5 _ => L - (intOf v5).toNat)
        case atStart => exact ⟨q + 1, 1, d, rfl, rfl, by omega, by omega, by omega, by omega, hS0, rfl, HC2⟩
        case round =>
          clear hS0 HC2
          obtain ⟨kk, k2, c, rfl, rfl, h3, h4, h5, h6, hS, hc, HC⟩ := hrel
          by_cases hk : k2 < L
          · obtain ⟨r, rfl⟩ : ∃ r, k2 = r + 1 := ⟨k2 - 1, by omega⟩
            have g2 : decide ((r : Int) + 1 < (L : Int)) = true := by simp; omega
            have c1 := hS.cell (j := q + 1 + (r + 1)) (by omega)
            have c0 := hS.cell (j := q + 1 + r) (by omega)
            have j1 : (r : Int) + 1 < (L : Int) := by omega
            have j0 : (r : Int) < (L : Int) := by omega
            have ek := hS.cell (j := kk) (by omega)
            have fk := hS.free kk
            have jk : (kk : Int) < (d.size : Int) := by omega
            obtain ⟨u, hu⟩ : ∃ u, u = d[q + 1 + (r + 1)]! := ⟨_, rfl⟩
            obtain ⟨v, hv⟩ : ∃ v, v = d[q + 1 + r]! := ⟨_, rfl⟩
            rw [HC.out.rest (q + 1 + (r + 1)) (by omega), ← hu] at c1
            rw [HC.out.rest (q + 1 + r) (by omega), ← hv] at c0
            have huv : v ≤ u := by
              have := sorted_iff.1 HSo.out (q + 1 + r) (q + 1 + (r + 1)) (Nat.zero_le _) (by omega) (by omega)
              rw [← hu, ← hv] at this; exact this
            by_cases e : u = v
            · have HC3 : Hid (CI d c kk (q + 1 + (r + 1 + 1))) := HC.out.dup (by omega) (by rw [show q + 1 + (r + 1) - 1 = q + 1 + r by omega, ← hu, ← hv]; exact e)
              have hd1 : decide (u = v) = true := by simp [e]
              clear hu hv HC huv
              go_wp2
              go_quiet (fail)
              go_wp2
              go_roundw
              case rel => exact ⟨kk, r + 1 + 1, c, rfl, rfl, h3, by omega, by omega, by omega, hS.drewN _, hc, HC3⟩
              case measure => simp only [intOf]; omega
            · have HC3 : Hid (CI d (c.setIfInBounds kk u) (kk + 1) (q + 1 + (r + 1 + 1))) := by
                have := HC.out.more (by omega) (by rw [show q + 1 + (r + 1) - 1 = q + 1 + r by omega, ← hu, ← hv]; omega)
                rw [← hu] at this
                exact this
              have hd1 : decide (u = v) = false := by simp [e]
              have hd2 : (u != v) = true := by simp [e]
              clear hu hv HC huv
              go_wp2
              go_quiet (fail)
              go_wp2
              go_roundw
              case rel => exact ⟨kk + 1, r + 1 + 1, c.setIfInBounds kk u, rfl, rfl, by omega, by omega, by omega, by omega, (hS.drewN _).set _ _, by simpa using hc, HC3⟩
              case measure => simp only [intOf]; omega
          · obtain rfl : k2 = L := by omega
            have g2 : decide ((k2 : Int) < (k2 : Int)) = false := by simp
            have HC3 : Hid (CI d c kk d.size) := by
              have := HC.out
              rw [show q + 1 + k2 = d.size by omega] at this
              exact this
            have hcl : ∀ ty, (Builtin.clear_ #[22] ty #[.slice (some ⟨g, kk, none⟩) (d.size - kk) (cap - kk)]).run Try.prog wr = .ok (.tuple #[]) (wr.setCells g kk (List.replicate (d.size - kk) (.int .u16 0))) :=
              fun ty => Lib.run_clear_slice wr 22 33 ty (.int .u16 0) Try.underlying22 (fun _ => by kernel_rfl) rfl rfl g kk (d.size - kk) (cap - kk) (by omega) (fun j hj => by rw [hS.cell (j := kk + j) (by omega)]; rfl) (fun j hj => hS.free _)
            clear HC
            go_wp2
            go_ret
            obtain ⟨e1, e2, e3⟩ := HC3.out.ends
            refine ⟨c.toList.take kk, by rw [e3]; rfl, e1, e2, by omega, SW.sets _ _ _ (hS.take kk) (by simp; omega)⟩
      · have HC2 : Hid (CI d d (q + 1 + 1) (q + 1 + 1)) := HC.out.stay hlt (by rw [Nat.add_sub_cancel, ← hx, ← hy]; omega)
        have hd : decide (x = y) = false := by simp [hxy]
        clear hx hy HC hyx
        go_wp2
        go_quiet (fail)
        go_wp2
        go_roundw
        case rel => exact ⟨q + 1 + 1, rfl, by omega, by omega, hS.drewN _, HC2⟩
        case measure => simp only [intOf]; omega
    · obtain rfl : k = d.size := by omega
      have g1 : decide ((d.size : Int) < (d.size : Int)) = false := by simp
      go_wp2
      go_ret
      have e := HC.out.ends
      have : d.toList.take d.size = d.toList := by rw [← Array.length_toList, List.take_length]
      rw [this] at e
      exact ⟨d.toList, by simp, e.1, fun z => Iff.rfl, by simp, by simpa using hS⟩

end Go.Proofs.Ytghifjiohgninaa
