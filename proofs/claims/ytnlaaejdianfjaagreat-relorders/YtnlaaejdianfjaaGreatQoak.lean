import Derived.Test.YtnlaaejdianfjaaGreatQoaj
import Derived.Test.YtnlaaejdianfjaaGreatQoai
namespace Go.Proofs.YtnlaaejdianfjaaGreat
open Go.RowKit
set_option linter.unusedVariables false
set_option linter.unusedSimpArgs false

set_option maxRecDepth 100000 in
set_option maxHeartbeats 2000000 in
theorem insNil_any {ao : Option Addr} {n cap a b : Nat} (fv : Value) (h : b ≤ a + 1) (ha : a ≤ 500) (w : World) :
    Calls Tryz.prog 144 #[.slice ao n cap, .int .i64 (a : Int), .int .i64 (b : Int), fv] w fun e w' => e = .returned (.tuple #[]) ∧ w' = w := by
  have h1 : ¬ ((a : Int) + 1 < (b : Int)) := by omega
  have h2 : decide ((a : Int) + 1 < (b : Int)) = false := by simpa using h1
  go_enter Tryz.func144, Tryz.ntmps144
  go_wp2
  go_loopw [8] (fun v8 wr => v8 = .int .i64 ((a : Int) + 1) ∧ wr = w) (fun _ _ => 0)
  case atStart => exact ⟨by first | rfl | go_num, rfl⟩
  case round =>
    obtain ⟨rfl, rfl⟩ := hrel
    go_wp2
    go_end0
    exact ⟨rfl, rfl⟩
set_option maxRecDepth 100000 in
set_option maxHeartbeats 2000000 in
theorem stableNil_any {ao : Option Addr} {cap : Nat} (fv : Value) (w : World) :
    Calls Tryz.prog 131 #[.slice ao 0 cap, .int .i64 0, fv] w fun e w' => e = .returned (.tuple #[]) ∧ w' = w := by
  have HI : Hid (Calls Tryz.prog 144 #[.slice ao 0 cap, .int .i64 0, .int .i64 0, fv] w fun e w' => e = .returned (.tuple #[]) ∧ w' = w) := hid (insNil_any (a := 0) (b := 0) fv (by decide) (by decide) w)
  go_enter Tryz.func131, Tryz.ntmps131
  go_wp2
  refine wp_loop_rounds 1 ?_
  rw [rounds_succ]
  go_wp2_with fail
  refine Calls.mono HI.out ?_
  rintro e w1 ⟨rfl, rfl⟩
  go_wp2
  refine wp_loop_rounds 1 ?_
  rw [rounds_succ]
  go_wp2
  go_end0
  exact ⟨rfl, rfl⟩
set_option maxRecDepth 100000 in
set_option maxHeartbeats 2000000 in
theorem stableR_any {w0 : World} {g n cap bn : Nat} {ds : Bool} {fv : Value} (hf : CmpR w0 fv bn ds) (hg : w0.heap.size ≤ g) {Z : List Zt} (hn : Z.length = n) (hm : n ≤ 20) (hr : ∀ z ∈ Z, RowIs eVal (fun _ => True) w0 (slV z.1) z.2 ∧ bn < z.2.length)
    {w : World} (hb : Below w0.heap.size w0 w) (hG : RowG w g Z) (hgl : g < w.heap.size) :
    Calls Tryz.prog 131 #[.slice (some ⟨g, 0, none⟩) n cap, .int .i64 (n : Int), fv] w fun e w' => e = .returned (.tuple #[]) ∧ Below w0.heap.size w0 w' ∧ ∃ Z' : List Zt, RowG w' g Z' ∧ Z'.length = n ∧ Z'.map (·.2) = (Z.map (·.2)).foldl (insP bn ds) [] ∧ SubZ Z' Z := by
  have HI : Hid _ := hid (insR_any (cap := cap) hf hg hn (by omega) hr hb hG hgl)
  have HO : Hid (∀ w, Calls Tryz.prog 144 #[.slice (some ⟨g, 0, none⟩) n cap, .int .i64 20, .int .i64 20, fv] w fun e w' => e = .returned (.tuple #[]) ∧ w' = w) := hid fun w => insNil_any (a := 20) (b := 20) fv (by decide) (by decide) w
  obtain ⟨N, caps, rfl, hcf, hN⟩ := hf
  clear hN hr hG hn
  by_cases h20 : n = 20
  · subst h20
    go_enter Tryz.func131, Tryz.ntmps131
    go_wp2
    refine wp_loop_rounds 2 ?_
    rw [rounds_succ]
    go_wp2_with fail
    refine Calls.mono HI.out ?_
    rintro e w1 ⟨rfl, hb1, h1⟩
    have H1 : Hid _ := hid h1
    clear HI h1 hb
    go_wp2
    rw [rounds_succ]
    go_wp2_with fail
    refine Calls.mono (HO.out _) ?_
    rintro e w2 ⟨rfl, rfl⟩
    clear HO
    go_wp2
    refine wp_loop_rounds 1 ?_
    rw [rounds_succ]
    go_wp2
    go_end0
    exact ⟨rfl, hb1, H1.out⟩
  · have h1 : ¬ (20 : Int) ≤ (n : Int) := by omega
    have h2 : decide ((20 : Int) ≤ (n : Int)) = false := by simpa using h1
    have h3 : ¬ (20 : Int) < (n : Int) := by omega
    have h4 : decide ((20 : Int) < (n : Int)) = false := by simpa using h3
    go_enter Tryz.func131, Tryz.ntmps131
    go_wp2
    refine wp_loop_rounds 1 ?_
    rw [rounds_succ]
    go_wp2_with fail
    refine Calls.mono HI.out ?_
    rintro e w1 ⟨rfl, hb1, h1⟩
    have H1 : Hid _ := hid h1
    clear HI h1 hb
    go_wp2
    refine wp_loop_rounds 1 ?_
    rw [rounds_succ]
    go_wp2
    go_end0
    exact ⟨rfl, hb1, H1.out⟩
/-- A stable sort of n rows tells this. -/
def StP (w0 : World) (g n bn : Nat) (ds : Bool) (Z : List Zt) (w' : World) : Prop := Below w0.heap.size w0 w' ∧ ∃ Z' : List Zt, RowG w' g Z' ∧ Z'.length = n ∧ Z'.map (·.2) = (Z.map (·.2)).foldl (insP bn ds) [] ∧ SubZ Z' Z
set_option maxRecDepth 100000 in
set_option maxHeartbeats 2000000 in
theorem stableF_of {ao : Option Addr} {n cap : Nat} {fv : Value} {w : World} {Q : Ending → World → Prop} (h : Calls Tryz.prog 131 #[.slice ao n cap, .int .i64 (n : Int), fv] w fun e w' => e = .returned (.tuple #[]) ∧ Q (.returned (.tuple #[])) w') :
    Calls Tryz.prog 115 #[.slice ao n cap, fv] w fun e w' => e = .returned (.tuple #[]) ∧ Q (.returned (.tuple #[])) w' := by
  have H : Hid _ := hid h
  clear h
  go_enter Tryz.func115, Tryz.ntmps115
  go_wp2_with fail
  refine Calls.mono H.out ?_
  rintro e w1 ⟨rfl, hb⟩
  have HB : Hid _ := hid hb
  clear hb H
  go_wp2
  go_end0
  exact ⟨rfl, HB.out⟩
/-- The rows of a slice, with their slices. -/
theorem rowsZ_ex {Q : Nat → Prop} {w : World} {a : Option Addr} {n c : Nat} {L : List (List Vt)} (h : RowIs eRow Q w (.slice a n c) L) : ∃ Z : List Zt, Z.length = n ∧ Z.map (·.2) = L ∧ (∀ z ∈ Z, RowIs eVal Q w (slV z.1) z.2) ∧ ∀ i z, Z[i]? = some z → ∃ b o, a = some ⟨b, o, none⟩ ∧ w.cell? ⟨b, o + i, none⟩ = some (slV z.1) := by
  have h1 : ∀ i (hi : i < L.length), ∃ z : Zt, z.2 = L[i] ∧ RowIs eVal Q w (slV z.1) z.2 ∧ ∃ b o, a = some ⟨b, o, none⟩ ∧ w.cell? ⟨b, o + i, none⟩ = some (slV z.1) := fun i hi => by
    obtain ⟨b, o, ra, rn, rc, h1, h2, h3, h4⟩ := row1 h hi
    exact ⟨((ra, rn, rc), L[i]), rfl, h4, b, o, h1, h3⟩
  have h2 : ∀ k, k ≤ L.length → ∃ Z : List Zt, Z.length = k ∧ ∀ i (hi : i < Z.length) (hl : i < L.length), Z[i].2 = L[i] ∧ RowIs eVal Q w (slV Z[i].1) Z[i].2 ∧ ∃ b o, a = some ⟨b, o, none⟩ ∧ w.cell? ⟨b, o + i, none⟩ = some (slV Z[i].1) := by
    intro k
    induction k with
    | zero => intro _; exact ⟨[], rfl, fun i hi => absurd hi (by simp)⟩
    | succ k ih =>
      intro hk
      obtain ⟨Z, hZ, hi⟩ := ih (by omega)
      obtain ⟨z, hz⟩ := h1 k hk
      refine ⟨Z ++ [z], by simp [hZ], fun i h3 hl => ?_⟩
      by_cases he : i < Z.length
      · rw [List.getElem_append_left he]; exact hi i he hl
      · have : i = k := by simp at h3; omega
        subst this
        rw [List.getElem_append_right (by omega)]
        simp only [hZ, Nat.sub_self, List.getElem_cons_zero]
        exact hz
  obtain ⟨Z, hZ, hi⟩ := h2 L.length (Nat.le_refl _)
  refine ⟨Z, by rw [hZ]; exact (row_lens h).1, ?_, ?_, ?_⟩
  · apply List.ext_getElem
    · rw [List.length_map, hZ]
    · intro i h3 h4
      rw [List.getElem_map]
      exact (hi i (by omega) h4).1
  · intro z hz
    obtain ⟨i, h3, rfl⟩ := List.mem_iff_getElem.1 hz
    exact (hi i h3 (by omega)).2.1
  · intro i z hz
    obtain ⟨h3, rfl⟩ := List.getElem?_eq_some_iff.1 hz
    exact (hi i h3 (by omega)).2.2
def zC (Z : List Zt) : List (List Value) := Z.map fun z => [slV z.1]
theorem zC_flat (Z : List Zt) : (zC Z).flatten = Z.map fun z => slV z.1 := by
  induction Z with
  | nil => rfl
  | cons a l ih => rw [zC, List.map_cons, List.flatten_cons]; exact congrArg (_ :: ·) ih
theorem zC_len (Z : List Zt) : (zC Z).length = Z.length := by simp [zC]
theorem zC_one (Z : List Zt) : ∀ cs ∈ zC Z, cs.length = 1 := by
  intro cs h
  obtain ⟨z, _, rfl⟩ := List.mem_map.1 h
  rfl
theorem zC_cell (Z : List Zt) : ∀ u ∈ (zC Z).flatten, u.oneCell' = true := by
  intro u h
  rw [zC_flat] at h
  obtain ⟨z, _, rfl⟩ := List.mem_map.1 h
  rfl
theorem OwnR.rowG {B : Nat} {w : World} {a : Option Addr} {n c : Nat} {Z : List Zt} (h : OwnR 42 1 B w (.slice a n c) (zC Z)) (hp : 0 < n) : ∃ g, a = some ⟨g, 0, none⟩ ∧ B ≤ g ∧ g < w.heap.size ∧ RowG w g Z ∧ n ≤ c ∧ c ≤ 9223372036854775807 := by
  have hl := h.lenV
  have ho := h.2
  rw [← hl] at ho
  rcases h.2.2 with ⟨e, h0⟩ | ⟨g, cap, cur, e, hb, hg, hnc, hc, hs, ht⟩
  · omega
  · injection e with e1 e2 e3
    subst e1
    have hgl : g < w.heap.size := (Array.getElem?_eq_some_iff.1 hg).1
    refine ⟨g, rfl, hb, hgl, fun i z hi => ?_, by omega, by rw [e3]; simpa [maxLen] using hc⟩
    obtain ⟨hil, rfl⟩ := List.getElem?_eq_some_iff.1 hi
    have c0 := World.ownsRow.cellAt ho i (by rw [Nat.mul_one, hl, zC_len]; exact hil)
    rw [zC_flat, List.getElem?_map, List.getElem?_eq_getElem hil] at c0
    exact ⟨c0, by unfold World.frozen?; rw [hg]; rfl⟩
set_option maxRecDepth 100000 in
set_option maxHeartbeats 1000000 in
theorem cloneR_any {Z : List Zt} {w : World} {ao : Option Addr} {n c : Nat} (hn : Z.length = n) (hm : n ≤ 500) (hnil : ao = none → n = 0) (hc : ∀ i z, Z[i]? = some z → ∃ b o, ao = some ⟨b, o, none⟩ ∧ w.cell? ⟨b, o + i, none⟩ = some (slV z.1)) :
    Calls Tryz.prog 114 #[.slice ao n c] w fun e w' => ∃ a' c', e = .returned (.slice a' n c') ∧ OwnR 42 1 w.heap.size w' (.slice a' n c') (zC Z) ∧ Below w.heap.size w w' := by
  cases ao with
  | none =>
    obtain rfl := hnil rfl
    have hz : Z = [] := List.eq_nil_of_length_eq_zero hn
    subst hz
    have HO : Hid (OwnR 42 1 w.heap.size w (.slice none 0 0) (zC [])) := hid (OwnR.nil _ _ _ _)
    have he : ∀ w : World, (binOp .eql 36 (.slice none 0 c) (.slice none 0 0)).run Tryz.prog w = .ok (.bool true) w := fun _ => rfl
    clear hc hn
    go_enter Tryz.func114, Tryz.ntmps114
    go_wp2
    go_ret
    exact ⟨_, _, rfl, HO.out, Below.refl _ _⟩
  | some ad =>
    have hN : Hid (∀ j u, (zC Z).flatten[j]? = some u → (w.alloc (.cells #[] 42)).cell? (ad.add j) = some u) := hid fun j u hj => by
      rw [zC_flat, List.getElem?_map] at hj
      obtain ⟨z, hz, rfl⟩ := Option.map_eq_some_iff.1 hj
      obtain ⟨b, o, e, hcc⟩ := hc j z hz
      cases e
      rw [show (⟨b, o, none⟩ : Addr).add j = ⟨b, o + j, none⟩ from by simp [Addr.add]]
      exact cell_later (bal (Below.refl _ w) _) hcc
    have hO : OwnR 42 1 w.heap.size (w.alloc (.cells #[] 42)) (.slice (some ⟨w.heap.size, 0, none⟩) 0 0) [] := ⟨fun c hc => by simp at hc, by simp, .inr ⟨w.heap.size, 0, #[], rfl, Nat.le_refl _, heap_alloc_new w _, Nat.le_refl _, by simp [maxLen], by simp, by simp⟩⟩
    have hB := bal (Below.refl _ w) (.cells #[] 42)
    have hl5 : 0 + n ≤ 1000 := by omega
    have HL : Hid (Z.length = n) := hid hn
    have he : ∀ w : World, (binOp .eql 36 (.slice (some ad) n c) (.slice none 0 0)).run Tryz.prog w = .ok (.bool false) w := fun _ => rfl
    clear hn hc hnil
    go_enter Tryz.func114, Tryz.ntmps114
    go_wp2_with (first | (at_builtin; refine wpList_appS Tryz.underlying36 Tryz.infoTRow rfl (by decide) (by decide) rfl (.tmp 5) (.tmp 6) rfl _ [] (zC Z) ad n c rfl rfl hO (zC_one Z) (by rw [zC_len]; exact HL.out) (zC_cell Z) hN.out hl5 hB.size ?_) | fail)
    intro v' w6 hO6 hg6
    have hB6 := Below.grownR hB hB.size hg6 fun k e => by cases e; exact Nat.le_refl _
    obtain ⟨a5, n5, d5, rfl⟩ := hO6.sl
    have hO7 : OwnR 42 1 w.heap.size w6 (.slice a5 n5 d5) (zC Z) := hO6
    have h5 : n5 = n := by rw [hO7.lenV, zC_len]; exact HL.out
    have HO7 : Hid _ := hid hO7
    clear hN hO hB hg6 hO6 hO7
    subst h5
    go_wp2
    go_ret
    exact ⟨_, _, rfl, HO7.out, hB6⟩

theorem rowZ_of {w : World} {g n c : Nat} {Z : List Zt} (hn : Z.length = n) (hnc : n ≤ c) (hcm : c ≤ 9223372036854775807) (hG : RowG w g Z) (hr : ∀ z ∈ Z, RowIs eVal (fun _ => True) w (slV z.1) z.2) : RowIs eRow (fun _ => True) w (.slice (some ⟨g, 0, none⟩) n c) (Z.map (·.2)) := by
  refine ⟨_, n, c, rfl, by rw [List.length_map]; exact hn, hnc, hcm, fun hp => ⟨g, 0, rfl, trivial, fun i hi => ?_⟩⟩
  rw [List.length_map] at hi
  refine ⟨[slV Z[i].1], ⟨_, _, _, rfl, ?_⟩, rfl, fun j hj => ?_⟩
  · rw [List.getElem_map]; exact hr _ (List.getElem_mem hi)
  · have hj0 : j = 0 := by simp at hj; omega
    subst hj0
    have := (hG i Z[i] (List.getElem?_eq_getElem hi)).1
    simpa [eRow] using this
set_option maxRecDepth 100000 in
set_option maxHeartbeats 2000000 in
theorem sortedNil_any {ao : Option Addr} {c : Nat} {N M : Nat} {caps caps2 : Array Value} (w : World) :
    Calls Tryz.prog 80 #[.slice ao 0 c, .func (.func M) #[] caps2, .func (.func N) #[] caps] w fun e w' => ∃ a' c', e = .returned (.slice a' 0 c') ∧ c' ≤ 9223372036854775807 ∧ Below w.heap.size w w' := by
  have hw := bal (bal (Below.refl w.heap.size w) (.cells #[.func (.func M) #[] caps2] 145)) (.cells #[.func (.func N) #[] caps] 57)
  have HC : Hid (∀ w, _) := hid fun w => cloneR_any (Z := []) (w := w) (ao := ao) (n := 0) (c := c) rfl (by decide) (fun h => rfl) (fun i z h => by simp at h)
  have hmf : ∀ (fn : Fn) (first cap : Array Value) (w : World), (Instr.makeFunc fn first cap).run Tryz.prog w = .ok (.func fn first cap) w := fun _ _ _ _ => rfl
  go_enter Tryz.func80, Tryz.ntmps80
  go_upto_region 1 with fail
  generalize (w.alloc (.cells #[.func (.func M) #[] caps2] 145)).alloc (.cells #[.func (.func N) #[] caps] 57) = W at *
  go_wp2_with fail
  refine Calls.mono (HC.out _) ?_
  rintro e w1 ⟨a', c', rfl, ho, hb1⟩
  have hB := Below.on hw hb1
  have HQ : Hid (c' ≤ 9223372036854775807) := hid (by
    rcases ho.2.2 with ⟨e, _⟩ | ⟨g, cap, cur, e, hb, hg, hnc, hc, hs, ht⟩
    · injection e with _ _ e3; omega
    · injection e with _ _ e3; rw [e3]; simpa [maxLen] using hc)
  have HS : Hid (∀ fv, Calls Tryz.prog 115 #[.slice a' 0 c', fv] w1 fun e w' => e = .returned (.tuple #[]) ∧ w' = w1) := hid fun fv => stableF_of (Q := fun _ w' => w' = w1) (stableNil_any fv w1)
  clear HC ho hb1 hw
  go_wp2_with fail
  refine Calls.mono (HS.out _) ?_
  rintro e w2 ⟨rfl, rfl⟩
  clear HS
  go_wp2
  go_ret
  exact ⟨_, _, rfl, HQ.out, hB⟩
set_option maxRecDepth 100000 in
set_option maxHeartbeats 2000000 in
theorem sorted_any {L : List (List Vt)} {bn : Nat} {ds : Bool} (hm : L.length ≤ 20) (hp : 0 < L.length) (hb : ∀ l ∈ L, bn < l.length) {Q : Nat → Prop} {w : World} {a : Option Addr} {n c : Nat} (h : RowIs eRow Q w (.slice a n c) L) {vk vo : Value} (hk : KeyR w vk bn) (ho : CmpV w vo (fun x y => if ds then cmpVt y x else cmpVt x y)) :
    Calls Tryz.prog 80 #[.slice a n c, vk, vo] w fun e w' => ∃ a' c', e = .returned (.slice a' n c') ∧ RowIs eRow (fun _ => True) w' (.slice a' n c') (L.foldl (insP bn ds) []) ∧ Below w.heap.size w w' := by
  obtain ⟨l1, l2, l3⟩ := row_lens h
  have hw := bal (bal (Below.refl w.heap.size w) (.cells #[vk] 145)) (.cells #[vo] 57)
  have k0 := (Bk.new w (.cells #[vk] 145)).later (bal (Below.refl _ _) (.cells #[vo] 57))
  have o0 := Bk.new (w.alloc (.cells #[vk] 145)) (.cells #[vo] 57)
  rw [World.size_alloc] at o0
  have ck := k0.cell 0
  have co := o0.cell 0
  simp only [List.getElem?_toArray, List.getElem?_cons_zero] at ck co
  have hR := cmpR_of (ho.later hw) (hk.later hw) co ck
  obtain ⟨Z, hZn, hZm, hZr, hZc⟩ := rowsZ_ex (h.keep (by decide) fun b _ hl => hw.block b hl)
  have hbZ : ∀ z ∈ Z, bn < z.2.length := fun z hz => hb _ (hZm ▸ List.mem_map_of_mem hz)
  obtain ⟨N, caps, rfl, hcf, hN⟩ := ho
  obtain ⟨M, caps2, rfl, hcf2, hM⟩ := hk
  have hmf : ∀ (fn : Fn) (first cap : Array Value) (w : World), (Instr.makeFunc fn first cap).run Tryz.prog w = .ok (.func fn first cap) w := fun _ _ _ _ => rfl
  have hpn : 0 < n := by omega
  obtain ⟨b, o, ra, rn, rc, rfl, -, -, -⟩ := row1 h (k := 0) hp
  clear hN hM ck co k0 o0 h hb
  go_enter Tryz.func80, Tryz.ntmps80
  go_upto_region 1 with fail
  generalize (w.alloc (.cells #[.func (.func M) #[] caps2] 145)).alloc (.cells #[.func (.func N) #[] caps] 57) = W at *
  have HC : Hid _ := hid (cloneR_any (w := W) (c := c) hZn (by omega) (fun h => by cases h) hZc)
  clear hZc
  go_wp2_with fail
  refine Calls.mono HC.out ?_
  rintro e w1 ⟨a', c', rfl, ho, hb1⟩
  have hB := Below.on hw hb1
  obtain ⟨g, rfl, hgW, hgl, hG, hnc, hcm⟩ := ho.rowG hpn
  have HS : Hid _ := hid (stableF_of (Q := fun _ w' => StP W g n bn ds Z w') (stableR_any (cap := c') hR hgW hZn (by omega) (fun z hz => ⟨(hZr z hz).mono (by decide) fun _ _ _ => trivial, hbZ z hz⟩) hb1 hG hgl))
  have HE : Hid (∀ w', StP W g n bn ds Z w' → RowIs eRow (fun _ => True) w' (.slice (some ⟨g, 0, none⟩) n c') (L.foldl (insP bn ds) []) ∧ Below w.heap.size w w') := hid fun w' ⟨q1, Z', q2, q3, q4, q5⟩ => by
    rw [← hZm, ← q4]
    exact ⟨rowZ_of q3 hnc hcm q2 fun z hz => ((hZr z (q5 z hz)).keep (by decide) fun b _ hl => q1.block b hl).mono (by decide) fun _ _ _ => trivial, Below.on hw q1⟩
  clear HC ho hb1 hw hR hZr hbZ hG
  go_wp2_with fail
  refine Calls.mono HS.out ?_
  rintro e w2 ⟨rfl, hq⟩
  have HQ : Hid _ := hid (HE.out _ hq)
  clear HS HE hq
  go_wp2
  go_ret
  exact ⟨_, _, rfl, HQ.out.1, HQ.out.2⟩

end Go.Proofs.YtnlaaejdianfjaaGreat
namespace Go.Proofs.YtnlaaejdianfjaaGreat
open Go.RowKit
set_option linter.unusedVariables false
set_option linter.unusedSimpArgs false

/-- Rows of the call's own, each in a block of its own, none in vb. -/
structure RowsD (B : Nat) (w : World) (vb : Option Nat) (Z : List Zt) : Prop where
  own : ∀ i (h : i < Z.length), OwnR 44 3 B w (slV Z[i].1) (Z[i].2.map cVs)
  out : ∀ i (h : i < Z.length), ∀ b, (slV Z[i].1).ownBlock = some b → vb ≠ some b
  apart : ∀ i (hi : i < Z.length) j (hj : j < Z.length), i ≠ j → ∀ b, (slV Z[i].1).ownBlock = some b → (slV Z[j].1).ownBlock ≠ some b
theorem RowsD.nil (B : Nat) (w : World) (vb : Option Nat) : RowsD B w vb [] := ⟨fun i h => absurd h (by simp), fun i h => absurd h (by simp), fun i h => absurd h (by simp)⟩
theorem RowsD.but {B g : Nat} {w w' : World} {vb : Option Nat} {Z : List Zt} (h : RowsD B w vb Z) (hb : But g w w') (hg : g < B) : RowsD B w' vb Z := ⟨fun i hi => (h.own i hi).but hb hg, h.out, h.apart⟩
theorem RowsD.later {B : Nat} {w w' : World} {vb : Option Nat} {Z : List Zt} (h : RowsD B w vb Z) (hb : Below w.heap.size w w') : RowsD B w' vb Z := ⟨fun i hi => (h.own i hi).later hb, h.out, h.apart⟩
theorem RowsD.base {B B' : Nat} {w : World} {vb : Option Nat} {Z : List Zt} (h : RowsD B w vb Z) (hB : B' ≤ B) : RowsD B' w vb Z := ⟨fun i hi => ⟨(h.own i hi).1, owns_base (h.own i hi).2 hB⟩, h.out, h.apart⟩
theorem RowsD.grow {B : Nat} {w w' : World} {vb : Option Nat} {Z : List Zt} (h : RowsD B w vb Z) (hg : w.grownBy w' vb) : RowsD B w' vb Z := ⟨fun i hi => ⟨(h.own i hi).1, (h.own i hi).2.kept hg (by
  cases hb : (slV Z[i].1).ownBlock with
  | none => exact .inl rfl
  | some b => exact .inr (h.out i hi b hb).symm)⟩, h.out, h.apart⟩
theorem RowsD.vb {B : Nat} {w w' : World} {vb vb' : Option Nat} {Z : List Zt} (h : RowsD B w vb Z) (h' : RowsD B w' vb Z) (hv : vb' = vb ∨ vb' = some w.heap.size) : RowsD B w' vb' Z := ⟨h'.own, fun i hi b hb e => by
  rcases hv with rfl | rfl
  · exact h.out i hi b hb e
  · have := ((h.own i hi).blk b hb).2
    injection e with e; omega, h'.apart⟩
theorem RowsD.snoc {B : Nat} {w : World} {vb : Option Nat} {Z : List Zt} {s : Sl} {r : List Vt} (h : RowsD B w vb Z) (hn : OwnR 44 3 B w (slV s) (r.map cVs)) (hf : ∀ b, (slV s).ownBlock = some b → vb ≠ some b ∧ ∀ i (hi : i < Z.length), (slV Z[i].1).ownBlock ≠ some b) : RowsD B w vb (Z ++ [(s, r)]) := by
  have hat : ∀ i (hi : i < (Z ++ [(s, r)]).length), (∃ h : i < Z.length, (Z ++ [(s, r)])[i] = Z[i]) ∨ (i = Z.length ∧ (Z ++ [(s, r)])[i] = (s, r)) := fun i hi => by
    by_cases he : i < Z.length
    · exact .inl ⟨he, List.getElem_append_left he⟩
    · have hi' : i = Z.length := by simp at hi; omega
      subst hi'
      exact .inr ⟨rfl, by simp⟩
  refine ⟨fun i hi => ?_, fun i hi b hb => ?_, fun i hi j hj hij b hb => ?_⟩
  · rcases hat i hi with ⟨h1, e⟩ | ⟨_, e⟩
    · rw [e]; exact h.own i h1
    · rw [e]; exact hn
  · rcases hat i hi with ⟨h1, e⟩ | ⟨_, e⟩
    · rw [e] at hb; exact h.out i h1 b hb
    · rw [e] at hb; exact (hf b hb).1
  · rcases hat i hi with ⟨h1, e⟩ | ⟨h1, e⟩ <;> rcases hat j hj with ⟨h2, e2⟩ | ⟨h2, e2⟩ <;> rw [e] at hb <;> rw [e2]
    · exact h.apart i h1 j h2 hij b hb
    · exact fun hc => (hf b hc).2 i h1 hb
    · exact (hf b hb).2 j h2
    · omega
/-- What a call that tells such rows tells. -/
def TeD (B : Nat) (w : World) (v : Value) (R : List (List Vt)) : Prop := ∃ Z : List Zt, OwnR 42 1 B w v (zC Z) ∧ Z.map (·.2) = R ∧ RowsD B w v.ownBlock Z
theorem TeD.but {B g : Nat} {w w' : World} {v : Value} {R : List (List Vt)} (h : TeD B w v R) (hb : But g w w') (hg : g < B) : TeD B w' v R := by
  obtain ⟨Z, ho, hm, hd⟩ := h
  exact ⟨Z, ho.but hb hg, hm, hd.but hb hg⟩
theorem TeD.base {B B' : Nat} {w : World} {v : Value} {R : List (List Vt)} (h : TeD B w v R) (hB : B' ≤ B) : TeD B' w v R := by
  obtain ⟨Z, ho, hm, hd⟩ := h
  exact ⟨Z, ⟨ho.1, owns_base ho.2 hB⟩, hm, hd.base hB⟩
theorem TeD.len {B : Nat} {w : World} {a : Option Addr} {m d : Nat} {R : List (List Vt)} (h : TeD B w (.slice a m d) R) : m = R.length := by
  obtain ⟨Z, ho, rfl, -⟩ := h
  rw [ho.lenV, zC_len, List.length_map]
/-- A row more: made above, put behind. -/
theorem TeD.snoc {B : Nat} {w3 w5 w6 : World} {v v' : Value} {Z : List Zt} {s : Sl} {r : List Vt} (hd3 : RowsD B w3 v.ownBlock Z) (hd5 : RowsD B w5 v.ownBlock Z) (hv : ∀ b, v.ownBlock = some b → b < w3.heap.size) (hB3 : B ≤ w3.heap.size) (hr : OwnR 44 3 w3.heap.size w5 (slV s) (r.map cVs))
    (hO : OwnR 42 1 B w6 v' (zC Z ++ [[slV s]])) (hg : w5.grownBy w6 v.ownBlock) (hown : v'.ownBlock = v.ownBlock ∨ v'.ownBlock = some w5.heap.size) : TeD B w6 v' (Z.map (·.2) ++ [r]) := by
  have hs : RowsD B w5 v.ownBlock (Z ++ [(s, r)]) := hd5.snoc ⟨hr.1, owns_base hr.2 hB3⟩ fun b hb => by
    have h1 := (hr.blk b hb).1
    exact ⟨fun e => by have := hv b e; omega, fun i hi e => by have := ((hd3.own i hi).blk b e).2; omega⟩
  refine ⟨Z ++ [(s, r)], ?_, by rw [List.map_append]; rfl, hs.vb (hs.grow hg) hown⟩
  have e : zC (Z ++ [(s, r)]) = zC Z ++ [[slV s]] := by simp [zC]
  rw [e]; exact hO

end Go.Proofs.YtnlaaejdianfjaaGreat
namespace Go.Proofs.YtnlaaejdianfjaaGreat
open Go.RowKit
set_option linter.unusedVariables false
set_option linter.unusedSimpArgs false

set_option maxRecDepth 100000 in
set_option maxHeartbeats 4000000 in
theorem rowsD_any {w : World} {a : Option Addr} {len cap : Nat} {zs : List Nat} (h0 : zs.length = len) (h1 : len ≤ cap) (h2 : cap ≤ 9223372036854775807) (h3 : NumX w a zs) (L : List Co) (hL : L.length ≤ 100) (hk12 : ∀ c ∈ L, c.2.1 = 1 ∨ c.2.1 = 2) (nm : ByteArray) {ca : Option Addr} {cn cc : Nat} (xa : Option Addr) (xn xc : Nat) (hc : RowIs eCol (fun _ => True) w (.slice ca cn cc) L) (N : Nat) (hN : N ≤ 100) :
    Calls Tryz.prog 11 #[.slice a len cap, .agg #[.string nm, .slice ca cn cc, .slice xa xn xc], .int .i64 (N : Int)] w fun e w' => ∃ v, e = .returned v ∧ TeD w.heap.size w' v (rowsX (L.map fun c => c.2.1) N zs) ∧ Below w.heap.size w w' := by
  have hw := bal (Below.refl w.heap.size w) (.cells #[.string nm, .slice ca cn cc, .slice xa xn xc] 33)
  have bT := Bk.new w (.cells #[.string nm, .slice ca cn cc, .slice xa xn xc] 33)
  have HM : Hid _ := hid (madeX_any h0 h1 h2 (h3.later hw))
  have hcl : RowIs eCol (fun b => b < w.heap.size) w (.slice ca cn cc) L := hc.mono (by decide) fun _ _ hl => hl
  have hgs : (w.alloc (.cells #[.string nm, .slice ca cn cc, .slice xa xn xc] 33)).heap.size = w.heap.size + 1 := by simp
  have hww := h0
  clear hc h3
  go_enter Tryz.func11, Tryz.ntmps11
  go_upto_region 1 with fail
  generalize w.alloc (.cells #[.string nm, .slice ca cn cc, .slice xa xn xc] 33) = W at *
  obtain ⟨g, hg⟩ : ∃ g, W.heap.size = g := ⟨_, rfl⟩
  rw [hg] at HM
  go_wp2_with fail
  (try rw [hg])
  refine Calls.mono HM.out ?_
  rintro e w2 ⟨rfl, hp2, hb2⟩
  have hgw : w.heap.size < g := by omega
  have hw2 := Below.on hw (hg ▸ hb2)
  have bT2 : Bk w2 w.heap.size (.cells #[.string nm, .slice ca cn cc, .slice xa xn xc] 33) := bT.later (hg ▸ hb2)
  have hg2 : g < w2.heap.size := hp2.lt
  replace hg : Hid _ := hid hg
  clear HM hb2 bT hw
  have HCo : Hid (∀ w', But g w2 w' → RowIs eCol (fun b => b ≠ g) w' (.slice ca cn cc) L) := hid fun w' hb => (hcl.keep (by decide) fun b hq hl => ((hb.block b (by have := hw2.size; omega) (by omega)).trans (hw2.block b hq))).mono (by decide) fun b hq _ => by omega
  go_wp2
  go_loopw [8] (fun v8 wr => ∃ (R : List (List Vt)) (ys : List Nat) (va : Option Addr) (vm vd : Nat), v8 = .slice va vm vd ∧ R.length ≤ N ∧ Hid (rowsX (L.map fun c => c.2.1) N zs = R ++ rowsX (L.map fun c => c.2.1) (N - R.length) ys) ∧ Hid (TeD w2.heap.size wr (.slice va vm vd) R) ∧ PkX wr g ys ∧ But g w2 wr ∧ Bk wr w.heap.size (.cells #[.string nm, .slice ca cn cc, .slice xa xn xc] 33)) (fun v _ => N - (match v with | .slice _ n _ => n | _ => 0))
  case atStart => exact ⟨[], zs, none, 0, 0, rfl, Nat.zero_le _, hid (by simp), hid ⟨[], OwnR.nil _ _ _ _, rfl, RowsD.nil _ _ _⟩, hp2, But.refl _ _, bT2⟩
  case round =>
    obtain ⟨R, ys, va, vm, vd, rfl, hRN, HRx, HTe, hpr, hBr, bTr⟩ := hrel
    have hvm : R.length = vm := HTe.out.len.symm
    have HOv : Hid _ := hid (overX_any hpr)
    have HFin : Hid (∀ w' : World, But g w2 w' → Below w.heap.size w w') := hid fun w' hb => hb.below hw2 (by omega) hw2.size
    by_cases hy : ys = []
    · rw [show decide (ys = []) = true from by simpa using hy] at HOv
      go_wp2_with fail
      refine Calls.mono HOv.out ?_
      rintro e w3 ⟨rfl, hp3, hb3⟩
      have hB3 := hBr.trans hb3
      have hR : rowsX (L.map fun c => c.2.1) N zs = R := by rw [HRx.out, hy, rowsX_nil, List.append_nil]
      have HT3 : Hid (TeD w2.heap.size w3 (.slice va vm vd) R) := hid (HTe.out.but hb3 hg2)
      have HR : Hid _ := hid hR
      clear HOv HRx HTe hR
      go_wp2
      go_ret
      exact ⟨_, rfl, by rw [HR.out]; exact HT3.out.base hw2.size, HFin.out _ hB3⟩
    · rw [show decide (ys = []) = false from by simpa using hy] at HOv
      go_wp2_with fail
      refine Calls.mono HOv.out ?_
      rintro e w3 ⟨rfl, hp3, hb3⟩
      have hB3 := hBr.trans hb3
      have HT3 : Hid (TeD w2.heap.size w3 (.slice va vm vd) R) := hid (HTe.out.but hb3 hg2)
      have bT3 : Bk w3 w.heap.size (.cells #[.string nm, .slice ca cn cc, .slice xa xn xc] 33) := ⟨(hb3.block w.heap.size bTr.lt (by omega)).trans bTr.row⟩
      clear HOv HTe hb3
      by_cases hlt : R.length < N
      · have t0 := bT3.cell 0
        have t1 := bT3.cell 1
        have t2 := bT3.cell 2
        simp only [List.getElem?_toArray, List.getElem?_cons_zero, List.getElem?_cons_succ] at t0 t1 t2
        have HRw : Hid _ := hid (rowLX_any hp3 L hL hk12 nm xa xn xc (HCo.out w3 hB3))
        have hlI : (vm : Int) < (N : Int) := by omega
        have hs3 : w2.heap.size ≤ w3.heap.size := hB3.size
        obtain ⟨rw0, hrw⟩ : ∃ r, rowX (L.map fun c => c.2.1) ys = r := ⟨_, rfl⟩
        have HNx : Hid (rowsX (L.map fun c => c.2.1) N zs = (R ++ [rw0]) ++ rowsX (L.map fun c => c.2.1) (N - (R ++ [rw0]).length) (ys.drop L.length)) := hid (by
          rw [HRx.out, show N - R.length = (N - (R ++ [rw0]).length) + 1 from by rw [List.length_append]; simp; omega, rowsX, if_neg hy, hrw, List.length_map]
          simp)
        rw [hrw] at HRw
        clear hrw HRx
        go_wp2_with fail
        refine Calls.mono HRw.out ?_
        rintro e w4 ⟨ra, rm, rd, rfl, hor, hp4, hb4⟩
        obtain ⟨Z, ho, hcl, hd3⟩ := HT3.out
        have hzl : (zC Z).length = R.length := by rw [zC_len, ← hcl, List.length_map]
        have hblk3 := ho.blk
        have ho4 := ho.but hb4 hg2
        have ho5 := ho4.alloc (.cells #[.slice ra rm rd] 42)
        have hB4 := hB3.trans hb4
        have hB5 := hB4.alloc (.cells #[.slice ra rm rd] 42)
        have hblk := ho4.blk
        have bT5 : Bk (w4.alloc (.cells #[.slice ra rm rd] 42)) w.heap.size (.cells #[.string nm, .slice ca cn cc, .slice xa xn xc] 33) := (⟨(hb4.block w.heap.size bT3.lt (by omega)).trans bT3.row⟩ : Bk w4 w.heap.size (.cells #[.string nm, .slice ca cn cc, .slice xa xn xc] 33)).later (bal (Below.refl _ _) _)
        have hp5 := hp4.alloc (.cells #[.slice ra rm rd] 42)
        have hsz5 : w2.heap.size ≤ (w4.alloc (.cells #[.slice ra rm rd] 42)).heap.size := hB5.size
        have hd5 : RowsD w2.heap.size (w4.alloc (.cells #[.slice ra rm rd] 42)) (Value.slice va vm vd).ownBlock Z := (hd3.but hb4 hg2).later (bal (Below.refl _ _) _)
        have hor5 := hor.alloc (.cells #[.slice ra rm rd] 42)
        have HD : Hid _ := hid (And.intro hd3 (And.intro hd5 hor5))
        clear HRw HT3 ho ho4 hd3 hd5 hor hor5 hb4 hB4 hp4 t0 t1 t2 bT3
        go_wp2_with (first | (at_builtin; go_must (refine wpList_appR Tryz.underlying36 Tryz.infoTRow rfl (by decide) (by decide) rfl (.tmp 20) (.tmp 24) rfl _ (zC Z) w4.heap.size [.slice ra rm rd] rfl rfl ho5 rfl (by simp [Value.oneCell']) (newV1 w4 _ _) (by omega) hsz5 ?_)) | fail)
        intro v' w6 hO6 hg6 hown
        obtain ⟨a6, m6, d6, rfl⟩ := hO6.sl
        have hb7 := below_grows (Below.refl w2.heap.size _) hsz5 hg6 fun k e => (hblk k e).1
        have hB6 : But g w2 w6 := ⟨hb7.os.trans hB5.os, hb7.tape.trans hB5.tape, hb7.output.trans hB5.output, Nat.le_trans hB5.size hb7.size, fun k hk hkg => (hb7.block k hk).trans (hB5.block k hk hkg)⟩
        have bT6 : Bk w6 w.heap.size (.cells #[.string nm, .slice ca cn cc, .slice xa xn xc] 33) := ⟨(hb7.block w.heap.size (by have := hw2.size; omega)).trans bT5.row⟩
        have hp6 := hp5.grown hg6 fun k e => by have := (hblk k e).1; omega
        have hTe6 : TeD w2.heap.size w6 (.slice a6 m6 d6) (R ++ [rw0]) := by
          rw [← hcl]
          exact TeD.snoc (s := (ra, rm, rd)) HD.out.1 HD.out.2.1 (fun b e => (hblk3 b e).2) hs3 HD.out.2.2 hO6 hg6 (by rw [World.size_alloc]; exact hown)
        have hm6 : m6 = R.length + 1 := by rw [hO6.lenV, List.length_append, hzl]; rfl
        have HT6 : Hid _ := hid (And.intro hTe6 (And.intro hB6 (And.intro bT6 hp6)))
        clear hO6 hg6 hown hB5 ho5 hblk hblk3 HD hTe6 hB6 bT6 hp6 hp5 bT5 hb7 hB3 hp3 hBr hpr bTr
        go_wp2
        go_roundw
        case rel => exact ⟨R ++ [rw0], ys.drop L.length, a6, m6, d6, rfl, by rw [List.length_append]; simp; omega, HNx, hid HT6.out.1, HT6.out.2.2.2, HT6.out.2.1, HT6.out.2.2.1⟩
        case measure => dsimp only; omega
      · have hR : rowsX (L.map fun c => c.2.1) N zs = R := by rw [HRx.out, show N - R.length = 0 from by omega]; simp [rowsX]
        have HR : Hid _ := hid hR
        have hge : ¬ (vm : Int) < (N : Int) := by omega
        have hgd : decide ((vm : Int) < (N : Int)) = false := by simpa using hge
        clear HRx hR
        go_wp2
        go_ret
        exact ⟨_, rfl, by rw [HR.out]; exact HT3.out.base hw2.size, HFin.out _ hB3⟩

end Go.Proofs.YtnlaaejdianfjaaGreat
namespace Go.Proofs.YtnlaaejdianfjaaGreat
open Go.RowKit
set_option linter.unusedVariables false
set_option linter.unusedSimpArgs false

theorem plc_le (st : List Vt → Bool) (out : List (List Vt)) : ∀ j, plcP st out j ≤ j
  | 0 => Nat.le_refl _
  | j + 1 => by
    have := plc_le st out j
    rw [plcP]; split <;> omega
theorem plc_hit (st : List Vt → Bool) (out : List (List Vt)) : ∀ j p, plcP st out j = p + 1 → st (out.getD p []) = true
  | 0, p, h => by cases h
  | j + 1, p, h => by
    rw [plcP] at h
    split at h
    · rename_i h1
      obtain rfl : j = p := by omega
      exact h1
    · exact plc_hit st out j p h
theorem plc_miss (st : List Vt → Bool) (out : List (List Vt)) : ∀ j i, plcP st out j ≤ i → i < j → st (out.getD i []) = false
  | 0, i, _, h => by omega
  | j + 1, i, h, hi => by
    rw [plcP] at h
    split at h
    · omega
    · rename_i h1
      by_cases he : i = j
      · subst he; simpa using h1
      · exact plc_miss st out j i h (by omega)
def ixN (r : List Vt) : Int := (r.getD 3 vZ).2.1
/-- May x follow y? -/
def okR (bn : Nat) (ds : Bool) (y x : List Vt) : Prop := behP bn ds x y = true ∧ (cmpVt (y.getD bn vZ) (x.getD bn vZ) = 0 → ixN y ≤ ixN x)
def AdjR (P : List Vt → List Vt → Prop) (l : List (List Vt)) : Prop := ∀ i a b, l[i]? = some a → l[i + 1]? = some b → P a b
theorem cmpVt_neg (a b : Vt) : cmpVt b a = -cmpVt a b := cmpV_neg ..
theorem okR_miss {bn : Nat} {ds : Bool} {x b : List Vt} (h : behP bn ds x b = false) : okR bn ds x b := by
  unfold behP at h
  have hn := cmpVt_neg (x.getD bn vZ) (b.getD bn vZ)
  unfold okR behP
  cases ds with
  | true =>
    simp only [if_pos, decide_eq_false_iff_not, decide_eq_true_eq] at h ⊢
    exact ⟨by omega, by omega⟩
  | false =>
    simp only [Bool.false_eq_true, if_false, decide_eq_false_iff_not, decide_eq_true_eq] at h ⊢
    exact ⟨by omega, by omega⟩
theorem ins_st (bn : Nat) (ds : Bool) (out : List (List Vt)) (x : List Vt) : insP bn ds out x = stZ out x [] (plcP (behP bn ds x) out out.length) := by
  unfold insP stZ; rw [List.append_nil]
theorem ins_adj {bn : Nat} {ds : Bool} {out : List (List Vt)} {x : List Vt} (h : AdjR (okR bn ds) out) (hx : ∀ y ∈ out, ixN y ≤ ixN x) : AdjR (okR bn ds) (insP bn ds out x) := by
  intro i a b ha hb
  rw [ins_st] at ha hb
  have hle := plc_le (behP bn ds x) out out.length
  have hhit := plc_hit (behP bn ds x) out out.length
  have hmiss := plc_miss (behP bn ds x) out out.length
  generalize plcP (behP bn ds x) out out.length = p at *
  have hgd : ∀ i a, out[i]? = some a → out.getD i [] = a := fun i a h => by rw [List.getD_eq_getElem?_getD, h]; rfl
  rcases Nat.lt_trichotomy i p with hi | rfl | hi
  · rw [stZ_lt hle hi] at ha
    by_cases he : i + 1 < p
    · rw [stZ_lt hle he] at hb
      exact h i a b ha hb
    · obtain rfl : p = i + 1 := by omega
      rw [stZ_at hle] at hb
      cases hb
      have := hhit i rfl
      rw [hgd i a ha] at this
      exact ⟨this, fun _ => hx a (List.mem_of_getElem? ha)⟩
  · rw [stZ_at hle] at ha
    cases ha
    rw [stZ_gt hle (by omega), List.append_nil, Nat.add_sub_cancel] at hb
    have hl := (List.getElem?_eq_some_iff.1 hb).1
    have := hmiss i (Nat.le_refl _) hl
    rw [hgd i b hb] at this
    exact okR_miss this
  · rw [stZ_gt hle hi, List.append_nil] at ha
    rw [stZ_gt hle (by omega), List.append_nil, show i + 1 - 1 = (i - 1) + 1 from by omega] at hb
    exact h (i - 1) a b ha hb
theorem ins_mem {bn : Nat} {ds : Bool} {out : List (List Vt)} {x y : List Vt} : y ∈ insP bn ds out x ↔ y ∈ out ∨ y = x := by
  unfold insP
  generalize plcP (behP bn ds x) out out.length = p
  rw [List.mem_append, List.mem_cons]
  have : y ∈ out ↔ y ∈ out.take p ∨ y ∈ out.drop p := by rw [← List.mem_append, List.take_append_drop]
  rw [this]
  constructor
  · rintro (h | h | h)
    · exact .inl (.inl h)
    · exact .inr h
    · exact .inl (.inr h)
  · rintro ((h | h) | h)
    · exact .inl h
    · exact .inr (.inr h)
    · exact .inr (.inl h)
theorem fold_mem {bn : Nat} {ds : Bool} : ∀ (L out : List (List Vt)) {y : List Vt}, (y ∈ out ∨ y ∈ L) → y ∈ L.foldl (insP bn ds) out
  | [], out, y, h => by simpa using h
  | x :: L, out, y, h => by
    rw [List.foldl_cons]
    refine fold_mem L _ ?_
    rcases h with h | h
    · exact .inl (ins_mem.2 (.inl h))
    · rcases List.mem_cons.1 h with h | h
      · exact .inl (ins_mem.2 (.inr h))
      · exact .inr h
theorem fold_adj {bn : Nat} {ds : Bool} : ∀ (L out : List (List Vt)) (m : Nat), AdjR (okR bn ds) out → (∀ y ∈ out, ixN y < (m : Int)) → (∀ i (h : i < L.length), ixN L[i] = ((m + i : Nat) : Int)) → AdjR (okR bn ds) (L.foldl (insP bn ds) out)
  | [], out, m, h, _, _ => h
  | x :: L, out, m, h, hm, hi => by
    have h0 := hi 0 (by simp)
    rw [List.getElem_cons_zero] at h0
    rw [List.foldl_cons]
    refine fold_adj L _ (m + 1) (ins_adj h fun y hy => by have := hm y hy; omega) (fun y hy => ?_) (fun i hl => ?_)
    · rcases ins_mem.1 hy with hy | rfl
      · have := hm y hy; omega
      · omega
    · have := hi (i + 1) (by simpa using hl)
      rw [List.getElem_cons_succ] at this
      rw [this]; omega
/-- Sorted rows that tell their numbers. -/
theorem srt_adj {bn : Nat} {ds : Bool} {X : List (List Vt)} (hX : ∀ i (h : i < X.length), ixN X[i] = (i : Int)) (hl : ∀ x ∈ X, bn < x.length) : AdjR (okR bn ds) (srtP (bn : Int) ds X) ∧ ∀ x ∈ X, x ∈ srtP (bn : Int) ds X := by
  have hw : wholeP (bn : Int) X = true := by
    unfold wholeP
    rw [Bool.and_eq_true, List.all_eq_true]
    exact ⟨by simp, fun x hx => by have := hl x hx; simp; omega⟩
  unfold srtP
  rw [hw, if_pos rfl, Int.toNat_natCast]
  exact ⟨fold_adj X [] 0 (fun i a b h => by simp at h) (fun y hy => by simp at hy) (fun i h => by rw [hX i h]; simp), fun x hx => fold_mem X [] (.inr hx)⟩

end Go.Proofs.YtnlaaejdianfjaaGreat
