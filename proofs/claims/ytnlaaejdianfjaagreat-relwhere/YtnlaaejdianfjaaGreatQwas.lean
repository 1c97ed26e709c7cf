import Derived.Test.YtnlaaejdianfjaaGreatQwar
import Derived.Test.YtnlaaejdianfjaaGreatQwaq
import Derived.Test.YtnlaaejdianfjaaGreatQwaj
namespace Go.Proofs.YtnlaaejdianfjaaGreat
open Go.RowKit
set_option linter.unusedVariables false
set_option linter.unusedSimpArgs false

set_option maxRecDepth 100000 in
set_option maxHeartbeats 2000000 in
theorem insNil_any {ao : Option Addr} {n cap a b : Nat} (fv : Value) (h : b ≤ a + 1) (ha : a ≤ 500) (w : World) :
    Calls Tryz.prog 144 #[.slice ao n cap, .int .i64 (a : Int), .int .i64 (b : Int), fv] w fun e w' => e = .returned (.tuple #[]) ∧ w' = w := by
  have h1 : ¬ ((a : Int) + 1 < (b : Int)) := by omega
  have h2 : decide ((a : Int) + 1 < (b : Int)) = false := by simpa using h1
  go_enter Tryz.func144, Tryz.ntmps144
  go_wp2
  go_loopw [8] (fun v8 wr => v8 = .int .i64 ((a : Int) + 1) ∧ wr = w) (fun _ _ => 0)
  case atStart => exact ⟨by first | rfl | go_num, rfl⟩
  case round =>
    obtain ⟨rfl, rfl⟩ := hrel
    go_wp2
    go_end0
    exact ⟨rfl, rfl⟩
set_option maxRecDepth 100000 in
set_option maxHeartbeats 2000000 in
theorem stableNil_any {ao : Option Addr} {cap : Nat} (fv : Value) (w : World) :
    Calls Tryz.prog 131 #[.slice ao 0 cap, .int .i64 0, fv] w fun e w' => e = .returned (.tuple #[]) ∧ w' = w := by
  have HI : Hid (Calls Tryz.prog 144 #[.slice ao 0 cap, .int .i64 0, .int .i64 0, fv] w fun e w' => e = .returned (.tuple #[]) ∧ w' = w) := hid (insNil_any (a := 0) (b := 0) fv (by decide) (by decide) w)
  go_enter Tryz.func131, Tryz.ntmps131
  go_wp2
  refine wp_loop_rounds 1 ?_
  rw [rounds_succ]
  go_wp2_with fail
  refine Calls.mono HI.out ?_
  rintro e w1 ⟨rfl, rfl⟩
  go_wp2
  refine wp_loop_rounds 1 ?_
  rw [rounds_succ]
  go_wp2
  go_end0
  exact ⟨rfl, rfl⟩
set_option maxRecDepth 100000 in
set_option maxHeartbeats 2000000 in
theorem stableR_any {w0 : World} {g n cap bn : Nat} {ds : Bool} {fv : Value} (hf : CmpR w0 fv bn ds) (hg : w0.heap.size ≤ g) {Z : List Zt} (hn : Z.length = n) (hm : n ≤ 20) (hr : ∀ z ∈ Z, RowIs eVal (fun _ => True) w0 (slV z.1) z.2 ∧ bn < z.2.length)
    {w : World} (hb : Below w0.heap.size w0 w) (hG : RowG w g Z) (hgl : g < w.heap.size) :
    Calls Tryz.prog 131 #[.slice (some ⟨g, 0, none⟩) n cap, .int .i64 (n : Int), fv] w fun e w' => e = .returned (.tuple #[]) ∧ Below w0.heap.size w0 w' ∧ ∃ Z' : List Zt, RowG w' g Z' ∧ Z'.length = n ∧ Z'.map (·.2) = (Z.map (·.2)).foldl (insP bn ds) [] ∧ SubZ Z' Z := by
  have HI : Hid _ := hid (insR_any (cap := cap) hf hg hn (by omega) hr hb hG hgl)
  have HO : Hid (∀ w, Calls Tryz.prog 144 #[.slice (some ⟨g, 0, none⟩) n cap, .int .i64 20, .int .i64 20, fv] w fun e w' => e = .returned (.tuple #[]) ∧ w' = w) := hid fun w => insNil_any (a := 20) (b := 20) fv (by decide) (by decide) w
  obtain ⟨N, caps, rfl, hcf, hN⟩ := hf
  clear hN hr hG hn
  by_cases h20 : n = 20
  · subst h20
    go_enter Tryz.func131, Tryz.ntmps131
    go_wp2
    refine wp_loop_rounds 2 ?_
    rw [rounds_succ]
    go_wp2_with fail
    refine Calls.mono HI.out ?_
    rintro e w1 ⟨rfl, hb1, h1⟩
    have H1 : Hid _ := hid h1
    clear HI h1 hb
    go_wp2
    rw [rounds_succ]
    go_wp2_with fail
    refine Calls.mono (HO.out _) ?_
    rintro e w2 ⟨rfl, rfl⟩
    clear HO
    go_wp2
    refine wp_loop_rounds 1 ?_
    rw [rounds_succ]
    go_wp2
    go_end0
    exact ⟨rfl, hb1, H1.out⟩
  · have h1 : ¬ (20 : Int) ≤ (n : Int) := by omega
    have h2 : decide ((20 : Int) ≤ (n : Int)) = false := by simpa using h1
    have h3 : ¬ (20 : Int) < (n : Int) := by omega
    have h4 : decide ((20 : Int) < (n : Int)) = false := by simpa using h3
    go_enter Tryz.func131, Tryz.ntmps131
    go_wp2
    refine wp_loop_rounds 1 ?_
    rw [rounds_succ]
    go_wp2_with fail
    refine Calls.mono HI.out ?_
    rintro e w1 ⟨rfl, hb1, h1⟩
    have H1 : Hid _ := hid h1
    clear HI h1 hb
    go_wp2
    refine wp_loop_rounds 1 ?_
    rw [rounds_succ]
    go_wp2
    go_end0
    exact ⟨rfl, hb1, H1.out⟩
/-- A stable sort of n rows tells this. -/
def StP (w0 : World) (g n bn : Nat) (ds : Bool) (Z : List Zt) (w' : World) : Prop := Below w0.heap.size w0 w' ∧ ∃ Z' : List Zt, RowG w' g Z' ∧ Z'.length = n ∧ Z'.map (·.2) = (Z.map (·.2)).foldl (insP bn ds) [] ∧ SubZ Z' Z
set_option maxRecDepth 100000 in
set_option maxHeartbeats 2000000 in
theorem stableF_of {ao : Option Addr} {n cap : Nat} {fv : Value} {w : World} {Q : Ending → World → Prop} (h : Calls Tryz.prog 131 #[.slice ao n cap, .int .i64 (n : Int), fv] w fun e w' => e = .returned (.tuple #[]) ∧ Q (.returned (.tuple #[])) w') :
    Calls Tryz.prog 115 #[.slice ao n cap, fv] w fun e w' => e = .returned (.tuple #[]) ∧ Q (.returned (.tuple #[])) w' := by
  have H : Hid _ := hid h
  clear h
  go_enter Tryz.func115, Tryz.ntmps115
  go_wp2_with fail
  refine Calls.mono H.out ?_
  rintro e w1 ⟨rfl, hb⟩
  have HB : Hid _ := hid hb
  clear hb H
  go_wp2
  go_end0
  exact ⟨rfl, HB.out⟩
/-- The rows of a slice, with their slices. -/
theorem rowsZ_ex {Q : Nat → Prop} {w : World} {a : Option Addr} {n c : Nat} {L : List (List Vt)} (h : RowIs eRow Q w (.slice a n c) L) : ∃ Z : List Zt, Z.length = n ∧ Z.map (·.2) = L ∧ (∀ z ∈ Z, RowIs eVal Q w (slV z.1) z.2) ∧ ∀ i z, Z[i]? = some z → ∃ b o, a = some ⟨b, o, none⟩ ∧ w.cell? ⟨b, o + i, none⟩ = some (slV z.1) := by
  have h1 : ∀ i (hi : i < L.length), ∃ z : Zt, z.2 = L[i] ∧ RowIs eVal Q w (slV z.1) z.2 ∧ ∃ b o, a = some ⟨b, o, none⟩ ∧ w.cell? ⟨b, o + i, none⟩ = some (slV z.1) := fun i hi => by
    obtain ⟨b, o, ra, rn, rc, h1, h2, h3, h4⟩ := row1 h hi
    exact ⟨((ra, rn, rc), L[i]), rfl, h4, b, o, h1, h3⟩
  have h2 : ∀ k, k ≤ L.length → ∃ Z : List Zt, Z.length = k ∧ ∀ i (hi : i < Z.length) (hl : i < L.length), Z[i].2 = L[i] ∧ RowIs eVal Q w (slV Z[i].1) Z[i].2 ∧ ∃ b o, a = some ⟨b, o, none⟩ ∧ w.cell? ⟨b, o + i, none⟩ = some (slV Z[i].1) := by
    intro k
    induction k with
    | zero => intro _; exact ⟨[], rfl, fun i hi => absurd hi (by simp)⟩
    | succ k ih =>
      intro hk
      obtain ⟨Z, hZ, hi⟩ := ih (by omega)
      obtain ⟨z, hz⟩ := h1 k hk
      refine ⟨Z ++ [z], by simp [hZ], fun i h3 hl => ?_⟩
      by_cases he : i < Z.length
      · rw [List.getElem_append_left he]; exact hi i he hl
      · have : i = k := by simp at h3; omega
        subst this
        rw [List.getElem_append_right (by omega)]
        simp only [hZ, Nat.sub_self, List.getElem_cons_zero]
        exact hz
  obtain ⟨Z, hZ, hi⟩ := h2 L.length (Nat.le_refl _)
  refine ⟨Z, by rw [hZ]; exact (row_lens h).1, ?_, ?_, ?_⟩
  · apply List.ext_getElem
    · rw [List.length_map, hZ]
    · intro i h3 h4
      rw [List.getElem_map]
      exact (hi i (by omega) h4).1
  · intro z hz
    obtain ⟨i, h3, rfl⟩ := List.mem_iff_getElem.1 hz
    exact (hi i h3 (by omega)).2.1
  · intro i z hz
    obtain ⟨h3, rfl⟩ := List.getElem?_eq_some_iff.1 hz
    exact (hi i h3 (by omega)).2.2
def zC (Z : List Zt) : List (List Value) := Z.map fun z => [slV z.1]
theorem zC_flat (Z : List Zt) : (zC Z).flatten = Z.map fun z => slV z.1 := by
  induction Z with
  | nil => rfl
  | cons a l ih => rw [zC, List.map_cons, List.flatten_cons]; exact congrArg (_ :: ·) ih
theorem zC_len (Z : List Zt) : (zC Z).length = Z.length := by simp [zC]
theorem zC_one (Z : List Zt) : ∀ cs ∈ zC Z, cs.length = 1 := by
  intro cs h
  obtain ⟨z, _, rfl⟩ := List.mem_map.1 h
  rfl
theorem zC_cell (Z : List Zt) : ∀ u ∈ (zC Z).flatten, u.oneCell' = true := by
  intro u h
  rw [zC_flat] at h
  obtain ⟨z, _, rfl⟩ := List.mem_map.1 h
  rfl
theorem OwnR.rowG {B : Nat} {w : World} {a : Option Addr} {n c : Nat} {Z : List Zt} (h : OwnR 42 1 B w (.slice a n c) (zC Z)) (hp : 0 < n) : ∃ g, a = some ⟨g, 0, none⟩ ∧ B ≤ g ∧ g < w.heap.size ∧ RowG w g Z ∧ n ≤ c ∧ c ≤ 9223372036854775807 := by
  have hl := h.lenV
  have ho := h.2
  rw [← hl] at ho
  rcases h.2.2 with ⟨e, h0⟩ | ⟨g, cap, cur, e, hb, hg, hnc, hc, hs, ht⟩
  · omega
  · injection e with e1 e2 e3
    subst e1
    have hgl : g < w.heap.size := (Array.getElem?_eq_some_iff.1 hg).1
    refine ⟨g, rfl, hb, hgl, fun i z hi => ?_, by omega, by rw [e3]; simpa [maxLen] using hc⟩
    obtain ⟨hil, rfl⟩ := List.getElem?_eq_some_iff.1 hi
    have c0 := World.ownsRow.cellAt ho i (by rw [Nat.mul_one, hl, zC_len]; exact hil)
    rw [zC_flat, List.getElem?_map, List.getElem?_eq_getElem hil] at c0
    exact ⟨c0, by unfold World.frozen?; rw [hg]; rfl⟩
set_option maxRecDepth 100000 in
set_option maxHeartbeats 1000000 in
theorem cloneR_any {Z : List Zt} {w : World} {ao : Option Addr} {n c : Nat} (hn : Z.length = n) (hm : n ≤ 500) (hnil : ao = none → n = 0) (hc : ∀ i z, Z[i]? = some z → ∃ b o, ao = some ⟨b, o, none⟩ ∧ w.cell? ⟨b, o + i, none⟩ = some (slV z.1)) :
    Calls Tryz.prog 114 #[.slice ao n c] w fun e w' => ∃ a' c', e = .returned (.slice a' n c') ∧ OwnR 42 1 w.heap.size w' (.slice a' n c') (zC Z) ∧ Below w.heap.size w w' := by
  cases ao with
  | none =>
    obtain rfl := hnil rfl
    have hz : Z = [] := List.eq_nil_of_length_eq_zero hn
    subst hz
    have HO : Hid (OwnR 42 1 w.heap.size w (.slice none 0 0) (zC [])) := hid (OwnR.nil _ _ _ _)
    have he : ∀ w : World, (binOp .eql 36 (.slice none 0 c) (.slice none 0 0)).run Tryz.prog w = .ok (.bool true) w := fun _ => rfl
    clear hc hn
    go_enter Tryz.func114, Tryz.ntmps114
    go_wp2
    go_ret
    exact ⟨_, _, rfl, HO.out, Below.refl _ _⟩
  | some ad =>
    have hN : Hid (∀ j u, (zC Z).flatten[j]? = some u → (w.alloc (.cells #[] 42)).cell? (ad.add j) = some u) := hid fun j u hj => by
      rw [zC_flat, List.getElem?_map] at hj
      obtain ⟨z, hz, rfl⟩ := Option.map_eq_some_iff.1 hj
      obtain ⟨b, o, e, hcc⟩ := hc j z hz
      cases e
      rw [show (⟨b, o, none⟩ : Addr).add j = ⟨b, o + j, none⟩ from by simp [Addr.add]]
      exact cell_later (bal (Below.refl _ w) _) hcc
    have hO : OwnR 42 1 w.heap.size (w.alloc (.cells #[] 42)) (.slice (some ⟨w.heap.size, 0, none⟩) 0 0) [] := ⟨fun c hc => by simp at hc, by simp, .inr ⟨w.heap.size, 0, #[], rfl, Nat.le_refl _, heap_alloc_new w _, Nat.le_refl _, by simp [maxLen], by simp, by simp⟩⟩
    have hB := bal (Below.refl _ w) (.cells #[] 42)
    have hl5 : 0 + n ≤ 1000 := by omega
    have HL : Hid (Z.length = n) := hid hn
    have he : ∀ w : World, (binOp .eql 36 (.slice (some ad) n c) (.slice none 0 0)).run Tryz.prog w = .ok (.bool false) w := fun _ => rfl
    clear hn hc hnil
    go_enter Tryz.func114, Tryz.ntmps114
    go_wp2_with (first | (at_builtin; refine wpList_appS Tryz.underlying36 Tryz.infoTRow rfl (by decide) (by decide) rfl (.tmp 5) (.tmp 6) rfl _ [] (zC Z) ad n c rfl rfl hO (zC_one Z) (by rw [zC_len]; exact HL.out) (zC_cell Z) hN.out hl5 hB.size ?_) | fail)
    intro v' w6 hO6 hg6
    have hB6 := Below.grownR hB hB.size hg6 fun k e => by cases e; exact Nat.le_refl _
    obtain ⟨a5, n5, d5, rfl⟩ := hO6.sl
    have hO7 : OwnR 42 1 w.heap.size w6 (.slice a5 n5 d5) (zC Z) := hO6
    have h5 : n5 = n := by rw [hO7.lenV, zC_len]; exact HL.out
    have HO7 : Hid _ := hid hO7
    clear hN hO hB hg6 hO6 hO7
    subst h5
    go_wp2
    go_ret
    exact ⟨_, _, rfl, HO7.out, hB6⟩

theorem rowZ_of {w : World} {g n c : Nat} {Z : List Zt} (hn : Z.length = n) (hnc : n ≤ c) (hcm : c ≤ 9223372036854775807) (hG : RowG w g Z) (hr : ∀ z ∈ Z, RowIs eVal (fun _ => True) w (slV z.1) z.2) : RowIs eRow (fun _ => True) w (.slice (some ⟨g, 0, none⟩) n c) (Z.map (·.2)) := by
  refine ⟨_, n, c, rfl, by rw [List.length_map]; exact hn, hnc, hcm, fun hp => ⟨g, 0, rfl, trivial, fun i hi => ?_⟩⟩
  rw [List.length_map] at hi
  refine ⟨[slV Z[i].1], ⟨_, _, _, rfl, ?_⟩, rfl, fun j hj => ?_⟩
  · rw [List.getElem_map]; exact hr _ (List.getElem_mem hi)
  · have hj0 : j = 0 := by simp at hj; omega
    subst hj0
    have := (hG i Z[i] (List.getElem?_eq_getElem hi)).1
    simpa [eRow] using this
set_option maxRecDepth 100000 in
set_option maxHeartbeats 2000000 in
theorem sortedNil_any {ao : Option Addr} {c : Nat} {N M : Nat} {caps caps2 : Array Value} (w : World) :
    Calls Tryz.prog 80 #[.slice ao 0 c, .func (.func M) #[] caps2, .func (.func N) #[] caps] w fun e w' => ∃ a' c', e = .returned (.slice a' 0 c') ∧ c' ≤ 9223372036854775807 ∧ Below w.heap.size w w' := by
  have hw := bal (bal (Below.refl w.heap.size w) (.cells #[.func (.func M) #[] caps2] 145)) (.cells #[.func (.func N) #[] caps] 57)
  have HC : Hid (∀ w, _) := hid fun w => cloneR_any (Z := []) (w := w) (ao := ao) (n := 0) (c := c) rfl (by decide) (fun h => rfl) (fun i z h => by simp at h)
  have hmf : ∀ (fn : Fn) (first cap : Array Value) (w : World), (Instr.makeFunc fn first cap).run Tryz.prog w = .ok (.func fn first cap) w := fun _ _ _ _ => rfl
  go_enter Tryz.func80, Tryz.ntmps80
  go_upto_region 1 with fail
  generalize (w.alloc (.cells #[.func (.func M) #[] caps2] 145)).alloc (.cells #[.func (.func N) #[] caps] 57) = W at *
  go_wp2_with fail
  refine Calls.mono (HC.out _) ?_
  rintro e w1 ⟨a', c', rfl, ho, hb1⟩
  have hB := Below.on hw hb1
  have HQ : Hid (c' ≤ 9223372036854775807) := hid (by
    rcases ho.2.2 with ⟨e, _⟩ | ⟨g, cap, cur, e, hb, hg, hnc, hc, hs, ht⟩
    · injection e with _ _ e3; omega
    · injection e with _ _ e3; rw [e3]; simpa [maxLen] using hc)
  have HS : Hid (∀ fv, Calls Tryz.prog 115 #[.slice a' 0 c', fv] w1 fun e w' => e = .returned (.tuple #[]) ∧ w' = w1) := hid fun fv => stableF_of (Q := fun _ w' => w' = w1) (stableNil_any fv w1)
  clear HC ho hb1 hw
  go_wp2_with fail
  refine Calls.mono (HS.out _) ?_
  rintro e w2 ⟨rfl, rfl⟩
  clear HS
  go_wp2
  go_ret
  exact ⟨_, _, rfl, HQ.out, hB⟩
set_option maxRecDepth 100000 in
set_option maxHeartbeats 2000000 in
theorem sorted_any {L : List (List Vt)} {bn : Nat} {ds : Bool} (hm : L.length ≤ 20) (hp : 0 < L.length) (hb : ∀ l ∈ L, bn < l.length) {Q : Nat → Prop} {w : World} {a : Option Addr} {n c : Nat} (h : RowIs eRow Q w (.slice a n c) L) {vk vo : Value} (hk : KeyR w vk bn) (ho : CmpV w vo (fun x y => if ds then cmpVt y x else cmpVt x y)) :
    Calls Tryz.prog 80 #[.slice a n c, vk, vo] w fun e w' => ∃ a' c', e = .returned (.slice a' n c') ∧ RowIs eRow (fun _ => True) w' (.slice a' n c') (L.foldl (insP bn ds) []) ∧ Below w.heap.size w w' := by
  obtain ⟨l1, l2, l3⟩ := row_lens h
  have hw := bal (bal (Below.refl w.heap.size w) (.cells #[vk] 145)) (.cells #[vo] 57)
  have k0 := (Bk.new w (.cells #[vk] 145)).later (bal (Below.refl _ _) (.cells #[vo] 57))
  have o0 := Bk.new (w.alloc (.cells #[vk] 145)) (.cells #[vo] 57)
  rw [World.size_alloc] at o0
  have ck := k0.cell 0
  have co := o0.cell 0
  simp only [List.getElem?_toArray, List.getElem?_cons_zero] at ck co
  have hR := cmpR_of (ho.later hw) (hk.later hw) co ck
  obtain ⟨Z, hZn, hZm, hZr, hZc⟩ := rowsZ_ex (h.keep (by decide) fun b _ hl => hw.block b hl)
  have hbZ : ∀ z ∈ Z, bn < z.2.length := fun z hz => hb _ (hZm ▸ List.mem_map_of_mem hz)
  obtain ⟨N, caps, rfl, hcf, hN⟩ := ho
  obtain ⟨M, caps2, rfl, hcf2, hM⟩ := hk
  have hmf : ∀ (fn : Fn) (first cap : Array Value) (w : World), (Instr.makeFunc fn first cap).run Tryz.prog w = .ok (.func fn first cap) w := fun _ _ _ _ => rfl
  have hpn : 0 < n := by omega
  obtain ⟨b, o, ra, rn, rc, rfl, -, -, -⟩ := row1 h (k := 0) hp
  clear hN hM ck co k0 o0 h hb
  go_enter Tryz.func80, Tryz.ntmps80
  go_upto_region 1 with fail
  generalize (w.alloc (.cells #[.func (.func M) #[] caps2] 145)).alloc (.cells #[.func (.func N) #[] caps] 57) = W at *
  have HC : Hid _ := hid (cloneR_any (w := W) (c := c) hZn (by omega) (fun h => by cases h) hZc)
  clear hZc
  go_wp2_with fail
  refine Calls.mono HC.out ?_
  rintro e w1 ⟨a', c', rfl, ho, hb1⟩
  have hB := Below.on hw hb1
  obtain ⟨g, rfl, hgW, hgl, hG, hnc, hcm⟩ := ho.rowG hpn
  have HS : Hid _ := hid (stableF_of (Q := fun _ w' => StP W g n bn ds Z w') (stableR_any (cap := c') hR hgW hZn (by omega) (fun z hz => ⟨(hZr z hz).mono (by decide) fun _ _ _ => trivial, hbZ z hz⟩) hb1 hG hgl))
  have HE : Hid (∀ w', StP W g n bn ds Z w' → RowIs eRow (fun _ => True) w' (.slice (some ⟨g, 0, none⟩) n c') (L.foldl (insP bn ds) []) ∧ Below w.heap.size w w') := hid fun w' ⟨q1, Z', q2, q3, q4, q5⟩ => by
    rw [← hZm, ← q4]
    exact ⟨rowZ_of q3 hnc hcm q2 fun z hz => ((hZr z (q5 z hz)).keep (by decide) fun b _ hl => q1.block b hl).mono (by decide) fun _ _ _ => trivial, Below.on hw q1⟩
  clear HC ho hb1 hw hR hZr hbZ hG
  go_wp2_with fail
  refine Calls.mono HS.out ?_
  rintro e w2 ⟨rfl, hq⟩
  have HQ : Hid _ := hid (HE.out _ hq)
  clear HS HE hq
  go_wp2
  go_ret
  exact ⟨_, _, rfl, HQ.out.1, HQ.out.2⟩

end Go.Proofs.YtnlaaejdianfjaaGreat
namespace Go.Proofs.YtnlaaejdianfjaaGreat
open Go.RowKit
set_option linter.unusedVariables false
set_option linter.unusedSimpArgs false

end Go.Proofs.YtnlaaejdianfjaaGreat
namespace Go.Proofs.YtnlaaejdianfjaaGreat
open Go.RowKit
set_option linter.unusedVariables false
set_option linter.unusedSimpArgs false

end Go.Proofs.YtnlaaejdianfjaaGreat
namespace Go.Proofs.YtnlaaejdianfjaaGreat
open Go.RowKit
set_option linter.unusedVariables false
set_option linter.unusedSimpArgs false

end Go.Proofs.YtnlaaejdianfjaaGreat
namespace Go.Proofs.YtnlaaejdianfjaaGreat
open Go.RowKit
set_option linter.unusedVariables false
set_option linter.unusedSimpArgs false

/-- A function value that asks a row. -/
def SuchR (p : List Vt → Bool) (w : World) (v : Value) : Prop := ∃ N caps, v = .func (.func N) #[] caps ∧ (∀ args w', (callFunc N args).run Tryz.prog w' = .ok (.enter N args) w') ∧ ∀ (x : List Vt) (a : Option Addr) (n c : Nat) (Q : Nat → Prop) (w' : World), Below w.heap.size w w' → RowIs eVal Q w' (.slice a n c) x → Calls Tryz.prog N (#[.slice a n c] ++ caps) w' fun en w'' => en = .returned (.bool (p x)) ∧ Below w'.heap.size w' w''
set_option maxRecDepth 100000 in
set_option maxHeartbeats 2000000 in
theorem idxRow_any {l : List (List Vt)} {p : List Vt → Bool} (hlen : l.length ≤ 500) {Q : Nat → Prop} {w : World} {ao : Option Addr} {n c : Nat} (h : RowIs eRow Q w (.slice ao n c) l) {v : Value} (hv : SuchR p w v) :
    Calls Tryz.prog 108 #[.slice ao n c, v] w fun en w' => en = .returned (.int .i64 (fidx p l)) ∧ Below w.heap.size w w' := by
  have HR : Hid (∀ w', Below w.heap.size w w' → RowIs eRow Q w' (.slice ao n c) l) := hid fun w' hb => h.keep (by decide) fun b _ hl => hb.block b hl
  obtain ⟨N, caps, rfl, hcf, hN⟩ := hv
  have HN : Hid (∀ (x : List Vt) (a : Option Addr) (n c : Nat) (Q : Nat → Prop) (w' : World), Below w.heap.size w w' → _) := hid hN
  obtain ⟨hn, hnc, hc⟩ := row_lens h
  subst hn
  obtain ⟨R, hR⟩ : ∃ R, fidx p l = R := ⟨_, rfl⟩
  have HF : Hid _ := hid hR
  rw [hR]
  clear hN hR h
  go_enter Tryz.func108, Tryz.ntmps108
  go_wp2
  go_loopw [5, 8] (fun _ v8 wr => ∃ k : Nat, k ≤ l.length ∧ v8 = .int .i64 k ∧ Below w.heap.size w wr ∧ Hid (∀ i (hi : i < l.length), i < k → p l[i] = false)) (fun _ i _ => l.length - (intOf i).toNat)
  case atStart => exact ⟨0, Nat.zero_le _, rfl, Below.refl _ _, hid fun i h hi => absurd hi (by omega)⟩
  case round =>
    obtain ⟨k, hk, rfl, hB, HE⟩ := hrel
    by_cases hlt : k < l.length
    · obtain ⟨b, o, xa, xn, xc, rfl, -, x0, rx⟩ := row1 (HR.out wr hB) (k := k) hlt
      obtain ⟨x, hxl⟩ : ∃ x, l[k] = x := ⟨_, rfl⟩
      rw [hxl] at rx
      have HX := HN.out x xa xn xc _ wr hB rx
      have hkm : (k : Int) < (l.length : Int) := by omega
      have hk5 : k ≤ 500 := by omega
      have HXl : Hid _ := hid hxl
      clear rx hxl
      cases hp : p x with
      | true =>
        rw [hp] at HX
        have HP : Hid (fidx p l = k) := hid (fidx_hit hlt HE.out (by rw [HXl.out]; exact hp))
        replace HX : Hid _ := hid HX
        clear hp
        go_wp2_with fail
        refine Calls.mono HX.out ?_
        rintro e w4 ⟨rfl, hb4⟩
        have hB4 : Below w.heap.size w w4 := Below.on hB hb4
        clear HX hb4 hB
        go_wp2
        go_ret
        exact ⟨ret_int (by rw [← HF.out, HP.out]), hB4⟩
      | false =>
        rw [hp] at HX
        have HN2 : Hid (∀ i (hi : i < l.length), i < k + 1 → p l[i] = false) := hid fun i hi hik => by
          by_cases he : i < k
          · exact HE.out i hi he
          · obtain rfl : i = k := by omega
            rw [HXl.out]; exact hp
        replace HX : Hid _ := hid HX
        clear hp HE
        go_wp2_with fail
        refine Calls.mono HX.out ?_
        rintro e w4 ⟨rfl, hb4⟩
        have hB4 : Below w.heap.size w w4 := Below.on hB hb4
        clear HX hb4 hB
        go_wp2
        go_roundw
        case rel => exact ⟨k + 1, hlt, by go_num, hB4, HN2⟩
        case measure => simp only [intOf]; omega
    · obtain rfl : k = l.length := by omega
      have HP : Hid (fidx p l = -1) := hid (fidx_none fun i hi => HE.out i hi hi)
      clear HE
      go_wp2
      go_ret
      exact ⟨ret_int (by rw [← HF.out, HP.out]), hB⟩
set_option maxRecDepth 100000 in
set_option maxHeartbeats 2000000 in
theorem containsRow_any {l : List (List Vt)} {p : List Vt → Bool} (hlen : l.length ≤ 500) {Q : Nat → Prop} {w : World} {ao : Option Addr} {n c : Nat} (h : RowIs eRow Q w (.slice ao n c) l) {v : Value} (hv : SuchR p w v) :
    Calls Tryz.prog 77 #[.slice ao n c, v] w fun en w' => en = .returned (.bool (l.any p)) ∧ Below w.heap.size w w' := by
  have HC : Hid _ := hid (idxRow_any hlen h hv)
  have he := fidxV_any p l
  obtain ⟨N, caps, rfl, hcf, hN⟩ := hv
  clear h hN
  generalize fidx p l = R at *
  have HE : Hid _ := hid he
  clear he
  go_enter Tryz.func77, Tryz.ntmps77
  go_wp2_with fail
  refine Calls.mono HC.out ?_
  rintro e w4 ⟨rfl, hb4⟩
  go_wp2
  go_ret
  exact ⟨ret_bool HE.out, hb4⟩
def lackP (bi : Int) (r : List Vt) : Bool := decide (bi < 0) || decide ((r.length : Int) ≤ bi)
set_option maxRecDepth 100000 in
set_option maxHeartbeats 2000000 in
theorem lacks_any {w : World} {b : Nat} {bi : Int} (hb : w.cell? ⟨b, 0, none⟩ = some (.int .i64 bi)) {x : List Vt} {a : Option Addr} {n c : Nat} {Q : Nat → Prop} (h : RowIs eVal Q w (.slice a n c) x) :
    Calls Tryz.prog 76 #[.slice a n c, .pointer (some ⟨b, 0, none⟩)] w fun e w' => e = .returned (.bool (lackP bi x)) ∧ Below w.heap.size w w' := by
  have hn := (row_lens h).1
  have HT : Hid (lackP bi x = (decide (bi < 0) || decide ((n : Int) ≤ bi))) := hid (by rw [lackP, hn])
  generalize lackP bi x = T at *
  clear h hn
  by_cases h0 : bi < 0
  · have e1 : decide (bi < 0) = true := by simpa using h0
    rw [e1] at HT
    go_enter Tryz.func76, Tryz.ntmps76
    go_wp2
    go_ret
    exact ⟨ret_bool (by rw [HT.out]; rfl), Below.refl _ _⟩
  · have e1 : decide (bi < 0) = false := by simpa using h0
    rw [e1] at HT
    go_enter Tryz.func76, Tryz.ntmps76
    go_wp2
    go_ret
    exact ⟨ret_bool (by rw [HT.out]; rfl), Below.refl _ _⟩
set_option maxRecDepth 100000 in
theorem lacks_of {w : World} {b : Nat} {bi : Int} (hb : w.cell? ⟨b, 0, none⟩ = some (.int .i64 bi)) : SuchR (lackP bi) w (.func (.func 76) #[] #[.pointer (some ⟨b, 0, none⟩)]) :=
  ⟨_, _, rfl, fun args w' => by rfl, fun x a n c Q w' hb2 h => lacks_any (cell_later hb2 hb) h⟩
theorem lack_whole (bi : Int) (L : List (List Vt)) (hp : 0 < L.length) : L.any (lackP bi) = !wholeP bi L := by
  unfold wholeP
  have hp : L ≠ [] := by intro h; subst h; simp at hp
  rw [Bool.eq_iff_iff, List.any_eq_true]
  simp only [lackP, Bool.or_eq_true, decide_eq_true_eq, Bool.not_eq_true', Bool.and_eq_false_iff, decide_eq_false_iff_not, List.all_eq_false]
  constructor
  · rintro ⟨x, hx, h | h⟩
    · exact .inl (by omega)
    · exact .inr ⟨x, hx, by omega⟩
  · rintro (h | ⟨x, hx, h⟩)
    · obtain ⟨x, hx⟩ := List.exists_mem_of_ne_nil _ hp
      exact ⟨x, hx, .inl (by omega)⟩
    · exact ⟨x, hx, .inr (by omega)⟩
set_option maxRecDepth 100000 in
set_option maxHeartbeats 4000000 in
theorem inOrder_any {L : List (List Vt)} (hm : L.length ≤ 20) (bi : Int) (ds : Bool) {Q : Nat → Prop} {w : World} {a : Option Addr} {n c : Nat} (h : RowIs eRow Q w (.slice a n c) L) :
    Calls Tryz.prog 44 #[.slice a n c, .int .i64 bi, .bool ds] w fun e w' => ∃ a' n' c', e = .returned (.slice a' n' c') ∧ RowIs eRow (fun _ => True) w' (.slice a' n' c') (srtP bi ds L) ∧ Below w.heap.size w w' := by
  obtain ⟨l1, l2, l3⟩ := row_lens h
  have hw := bal (Below.refl w.heap.size w) (.cells #[.int .i64 bi] 3)
  have k0 := (Bk.new w (.cells #[.int .i64 bi] 3)).cell 0
  simp only [List.getElem?_toArray, List.getElem?_cons_zero] at k0
  have hmf : ∀ (fn : Fn) (first cap : Array Value) (w : World), (Instr.makeFunc fn first cap).run Tryz.prog w = .ok (.func fn first cap) w := fun _ _ _ _ => rfl
  have HR : Hid (∀ w', Below w.heap.size w w' → RowIs eRow Q w' (.slice a n c) L) := hid fun w' hb => h.keep (by decide) fun b _ hl => hb.block b hl
  have HC : Hid _ := hid (containsRow_any (by omega) (HR.out _ hw) (lacks_of k0))
  by_cases hp : L.length = 0
  · have hL : L = [] := List.eq_nil_of_length_eq_zero hp
    subst hL
    obtain rfl : n = 0 := by simpa using l1.symm
    have hs : srtP bi ds [] = [] := by unfold srtP; split <;> rfl
    rw [hs]
    have HC2 : Hid (Calls Tryz.prog 77 #[.slice a 0 c, .func (.func 76) #[] #[.pointer (some ⟨w.heap.size, 0, none⟩)]] (w.alloc (.cells #[.int .i64 bi] 3)) fun en w' => en = .returned (.bool false) ∧ Below (w.alloc (.cells #[.int .i64 bi] 3)).heap.size (w.alloc (.cells #[.int .i64 bi] 3)) w') := HC
    clear HC HR h hs k0
    cases ds with
    | false =>
      go_enter Tryz.func44, Tryz.ntmps44
      go_upto_region 1 with fail
      generalize w.alloc (.cells #[.int .i64 bi] 3) = W at *
      go_wp2_with fail
      refine Calls.mono HC2.out ?_
      rintro e w1 ⟨rfl, hb1⟩
      have hB := Below.on hw hb1
      have HS : Hid (∀ y, _) := hid fun y => sortedNil_any (ao := a) (c := c) (N := 78) (M := 81) (caps := #[]) (caps2 := #[.pointer (some ⟨w.heap.size, 0, none⟩)]) y
      clear HC2 hb1
      go_wp2_with fail
      refine Calls.mono (HS.out _) ?_
      rintro e w2 ⟨a', c', rfl, hc', hb2⟩
      have hB2 := Below.on hB hb2
      clear HS hb2
      go_wp2
      go_ret
      exact ⟨_, _, _, rfl, ⟨_, 0, c', rfl, rfl, Nat.zero_le _, hc', fun h => absurd h (by omega)⟩, hB2⟩
    | true =>
      go_enter Tryz.func44, Tryz.ntmps44
      go_upto_region 1 with fail
      generalize w.alloc (.cells #[.int .i64 bi] 3) = W at *
      go_wp2_with fail
      refine Calls.mono HC2.out ?_
      rintro e w1 ⟨rfl, hb1⟩
      have hB := Below.on hw hb1
      have HF : Hid _ := hid (falling_any (cmpV_plain w1))
      clear HC2 hb1
      go_wp2_with fail
      refine Calls.mono HF.out ?_
      rintro e w2 ⟨u, rfl, ⟨N, caps, rfl, -, -⟩, hb2⟩
      have hB2 := Below.on hB hb2
      have HS : Hid (∀ y, _) := hid fun y => sortedNil_any (ao := a) (c := c) (N := N) (M := 81) (caps := caps) (caps2 := #[.pointer (some ⟨w.heap.size, 0, none⟩)]) y
      clear HF hb2
      go_wp2_with fail
      refine Calls.mono (HS.out _) ?_
      rintro e w3 ⟨a', c', rfl, hc', hb3⟩
      have hB3 := Below.on hB2 hb3
      clear HS hb3
      go_wp2
      go_ret
      exact ⟨_, _, _, rfl, ⟨_, 0, c', rfl, rfl, Nat.zero_le _, hc', fun h => absurd h (by omega)⟩, hB3⟩
  · rw [lack_whole bi L (by omega)] at HC
    cases hW : wholeP bi L with
    | false =>
      rw [hW] at HC
      have hs : srtP bi ds L = L := by unfold srtP; rw [hW]; rfl
      rw [hs]
      have HC2 : Hid (Calls Tryz.prog 77 #[.slice a n c, .func (.func 76) #[] #[.pointer (some ⟨w.heap.size, 0, none⟩)]] (w.alloc (.cells #[.int .i64 bi] 3)) fun en w' => en = .returned (.bool true) ∧ Below (w.alloc (.cells #[.int .i64 bi] 3)).heap.size (w.alloc (.cells #[.int .i64 bi] 3)) w') := HC
      clear HC h hs k0 hW
      go_enter Tryz.func44, Tryz.ntmps44
      go_upto_region 1 with fail
      generalize w.alloc (.cells #[.int .i64 bi] 3) = W at *
      go_wp2_with fail
      refine Calls.mono HC2.out ?_
      rintro e w1 ⟨rfl, hb1⟩
      have hB := Below.on hw hb1
      clear HC2 hb1
      go_wp2
      go_ret
      exact ⟨_, _, _, rfl, (HR.out _ hB).mono (by decide) fun _ _ _ => trivial, hB⟩
    | true =>
      rw [hW] at HC
      have hs : srtP bi ds L = L.foldl (insP bi.toNat ds) [] := by unfold srtP; rw [hW]; rfl
      have hW' := hW
      unfold wholeP at hW'
      rw [Bool.and_eq_true, List.all_eq_true] at hW'
      have h0 := of_decide_eq_true hW'.1
      have hb : ∀ l ∈ L, bi.toNat < l.length := fun l hl => by
        have := of_decide_eq_true (hW'.2 l hl)
        omega
      obtain ⟨bn, hbn⟩ : ∃ bn : Nat, bi = bn := ⟨bi.toNat, by omega⟩
      subst hbn
      rw [Int.toNat_natCast] at hs hb
      rw [hs]
      have HC2 : Hid (Calls Tryz.prog 77 #[.slice a n c, .func (.func 76) #[] #[.pointer (some ⟨w.heap.size, 0, none⟩)]] (w.alloc (.cells #[.int .i64 (bn : Int)] 3)) fun en w' => en = .returned (.bool false) ∧ Below (w.alloc (.cells #[.int .i64 (bn : Int)] 3)).heap.size (w.alloc (.cells #[.int .i64 (bn : Int)] 3)) w') := HC
      have HB : Hid _ := hid hb
      clear HC h hs hW hW' h0 hb
      cases ds with
      | false =>
        go_enter Tryz.func44, Tryz.ntmps44
        go_upto_region 1 with fail
        generalize w.alloc (.cells #[.int .i64 (bn : Int)] 3) = W at *
        go_wp2_with fail
        refine Calls.mono HC2.out ?_
        rintro e w1 ⟨rfl, hb1⟩
        have hB := Below.on hw hb1
        have HS : Hid _ := hid (sorted_any (ds := false) hm (by omega) HB.out (HR.out _ hB) (keyR_of (cell_later hb1 k0)) (cmpV_plain w1))
        clear HC2 hb1 k0
        go_wp2_with fail
        refine Calls.mono HS.out ?_
        rintro e w2 ⟨a', c', rfl, hr, hb2⟩
        have hB2 := Below.on hB hb2
        have HQ : Hid _ := hid hr
        clear HS hb2 hr
        go_wp2
        go_ret
        exact ⟨_, _, _, rfl, HQ.out, hB2⟩
      | true =>
        go_enter Tryz.func44, Tryz.ntmps44
        go_upto_region 1 with fail
        generalize w.alloc (.cells #[.int .i64 (bn : Int)] 3) = W at *
        go_wp2_with fail
        refine Calls.mono HC2.out ?_
        rintro e w1 ⟨rfl, hb1⟩
        have hB := Below.on hw hb1
        have k1 := cell_later hb1 k0
        have HF : Hid _ := hid (falling_any (cmpV_plain w1))
        clear HC2 hb1 k0
        go_wp2_with fail
        refine Calls.mono HF.out ?_
        rintro e w2 ⟨u, rfl, hu, hb2⟩
        have hB2 := Below.on hB hb2
        have HS : Hid _ := hid (sorted_any (ds := true) hm (by omega) HB.out (HR.out _ hB2) (keyR_of (cell_later hb2 k1)) hu)
        obtain ⟨N, caps, rfl, -, -⟩ := hu
        clear HF hb2 k1
        go_wp2_with fail
        refine Calls.mono HS.out ?_
        rintro e w3 ⟨a', c', rfl, hr, hb3⟩
        have hB3 := Below.on hB2 hb3
        have HQ : Hid _ := hid hr
        clear HS hb3 hr
        go_wp2
        go_ret
        exact ⟨_, _, _, rfl, HQ.out, hB3⟩
theorem srt_mem (bi : Int) (ds : Bool) (L : List (List Vt)) : ∀ l ∈ srtP bi ds L, l ∈ L := by
  have hi : ∀ (bn : Nat) (L O : List (List Vt)), ∀ l ∈ L.foldl (insP bn ds) O, l ∈ O ∨ l ∈ L := fun bn L => by
    induction L with
    | nil => intro O l hl; exact .inl hl
    | cons x L ih =>
      intro O l hl
      rcases ih _ l hl with h | h
      · unfold insP at h
        rcases List.mem_append.1 h with h | h
        · exact .inl (List.mem_of_mem_take h)
        · rcases List.mem_cons.1 h with rfl | h
          · exact .inr (by simp)
          · exact .inl (List.mem_of_mem_drop h)
      · exact .inr (by simp [h])
  unfold srtP
  split
  · intro l hl
    rcases hi _ _ _ l hl with h | h
    · simp at h
    · exact h
  · exact fun l h => h
theorem srt_len (bi : Int) (ds : Bool) (L : List (List Vt)) : (srtP bi ds L).length = L.length := by
  have hi : ∀ (bn : Nat) (L O : List (List Vt)), (L.foldl (insP bn ds) O).length = O.length + L.length := fun bn L => by
    induction L with
    | nil => intro O; rfl
    | cons x L ih =>
      intro O
      rw [List.foldl_cons, ih]
      have : (insP bn ds O x).length = O.length + 1 := by
        unfold insP
        rw [List.length_append, List.length_cons, List.length_take, List.length_drop]
        omega
      rw [this, List.length_cons]; omega
  unfold srtP
  split
  · rw [hi]; simp
  · rfl
set_option maxRecDepth 100000 in
set_option maxHeartbeats 2000000 in
theorem sortT_any {L : List (List Vt)} (hm : L.length ≤ 20) (hM : ∀ l ∈ L, l.length ≤ 500) (hs : ∀ l ∈ L, ∀ v ∈ l, v.2.2.size ≤ 281474976710656) (bi : Int) (ds : Bool) {Q : Nat → Prop} {w : World} {a : Option Addr} {n c : Nat} (h : RowIs eRow Q w (.slice a n c) L) :
    Calls Tryz.prog 16 #[.slice a n c, .int .i64 bi, .bool ds] w fun e w' => ∃ v, e = .returned v ∧ TeRs w.heap.size w' v (srtP bi ds L) ∧ Below w.heap.size w w' := by
  have HI : Hid _ := hid (inOrder_any hm bi ds h)
  have HM : Hid (∀ l ∈ srtP bi ds L, l.length ≤ 500) := hid fun l hl => hM l (srt_mem bi ds L l hl)
  have HS : Hid (∀ l ∈ srtP bi ds L, ∀ v ∈ l, v.2.2.size ≤ 281474976710656) := hid fun l hl => hs l (srt_mem bi ds L l hl)
  have hl := srt_len bi ds L
  generalize srtP bi ds L = R at *
  have hR : R.length ≤ 500 := by omega
  clear h hM hs
  go_enter Tryz.func16, Tryz.ntmps16
  go_wp2_with fail
  refine Calls.mono HI.out ?_
  rintro e w1 ⟨a', n', c', rfl, hr, hb1⟩
  have HC : Hid _ := hid (copied_any hR HM.out HS.out hr)
  clear HI hr
  go_wp2_with fail
  refine Calls.mono HC.out ?_
  rintro e w2 ⟨v, rfl, ht, hb2⟩
  have hB := Below.on hb1 hb2
  have HT : Hid _ := hid (ht.base hb1.size)
  clear HC ht hb1 hb2
  go_wp2
  go_ret
  exact ⟨_, rfl, HT.out, hB⟩

end Go.Proofs.YtnlaaejdianfjaaGreat
namespace Go.Proofs.YtnlaaejdianfjaaGreat
open Go.RowKit
set_option linter.unusedVariables false
set_option linter.unusedSimpArgs false

theorem vaOK_good {k i : Int} {s : ByteArray} (h : VaOK k i s) : mayV k i (nums s) = true ∧ Fits i ∧ s.size ≤ maxLen := by
  rcases h with ⟨rfl, rfl, hs⟩ | ⟨rfl, rfl, hi⟩
  · simp only [List.mem_cons, List.not_mem_nil, or_false] at hs
    refine ⟨?_, fits0, ?_⟩
    · rcases hs with rfl | rfl | rfl | rfl | rfl <;> decide
    · rcases hs with rfl | rfl | rfl | rfl | rfl <;> decide
  · exact ⟨by simp [mayV, nums], by unfold Fits; omega, by decide⟩
theorem rwOK_good {L : List Co} {V : List Vt} (h : RwOK L V) : ∀ v ∈ V, mayV v.1 v.2.1 (nums v.2.2) = true ∧ Fits v.2.1 ∧ v.2.2.size ≤ maxLen := by
  intro v hv
  obtain ⟨i, hi, rfl⟩ := List.mem_iff_getElem.1 hv
  obtain ⟨h1, h2⟩ := h.2 i (by rw [← h.1]; exact hi) hi
  rw [h1]
  exact vaOK_good h2
end Go.Proofs.YtnlaaejdianfjaaGreat
