/- The walks of the reader's fail, skip, is, take. -/
import Derived.Test.YtjlmcnbmhgabpaaGreatPb
namespace Go.Proofs.YtjlmcnbmhgabpaaGreat
open Go.RowKit
set_option linter.unusedVariables false

theorem hid {p : Prop} (h : p) : Hid p := h
theorem But.later {g : Nat} {a w w' : World} (h : But g a w) (k : Below w.heap.size w w') : But g a w' := h.trans (But.of k)
theorem Rp.drew {w : World} {g : Nat} {S : Sa} {d : Nat} (h : Rp w g S d) : Rp w.drew g S d := h.keep fun _ _ => rfl

set_option maxRecDepth 100000 in
set_option maxHeartbeats 1000000 in
theorem pFail_any {g : Nat} {S : Sa} {d : Nat} {w : World} (h : Rp w g S d) (e : Int) (he : e ≠ 0) :
    Calls Tryz.prog 45 #[.pointer (some ⟨g, 0, none⟩), .int .i64 e] w fun x w' => x = .returned (.tuple #[]) ∧ Rp w' g (failS e S) d ∧ But g w w' := by
  have hgl := h.lt
  match S, h with
  | .inl x, h =>
    obtain ⟨sl, hx, hq⟩ := h.bad
    obtain ⟨c0, c1, c2, c3⟩ := hq.cells
    have g1 : (x.2 == 0) = false := by simpa using hx
    have HR : Hid _ := hid h
    clear h hq
    go_enter Tryz.func45, Tryz.ntmps45
    go_wp2
    refine bodyPost_end (results_none rfl _ _ _) rfl ⟨rfl, HR.out, But.refl _ _⟩
  | .inr (t :: ts), h =>
    obtain ⟨b, o, n, c, hq, hw⟩ := h.ok
    obtain ⟨c0, c1, c2, c3⟩ := hq.cells
    obtain ⟨f0, f1, f2, f3⟩ := hq.free
    obtain ⟨q0, q1, q2, q3⟩ := hw.head
    have hp := hw.pos
    have hbl := hw.blt
    have HR : Hid (Rp ((w.setCell ⟨g, 2, none⟩ (.int .i64 t.2.2.2)).setCell ⟨g, 3, none⟩ (.int .i64 e)) g (.inl (t.2.2.2, e)) d) := hid (Rp.of_bad he ((hq.set2 _).set3 _))
    clear h hq hw
    go_enter Tryz.func45, Tryz.ntmps45
    go_wp2
    refine bodyPost_end (results_none rfl _ _ _) rfl ⟨rfl, HR.out, (But.set _ _ _ _).trans (But.set _ _ _ _)⟩
  | .inr [], h =>
    obtain ⟨b, o, n, c, hq, hw⟩ := h.ok
    exact hw.ended.elim

set_option maxRecDepth 100000 in
set_option maxHeartbeats 1000000 in
theorem pSkip_any {g : Nat} {t : Tk} {ts : List Tk} {d : Nat} {w : World} (h : Rp w g (.inr (t :: ts)) d) (ht : t.1 ≠ 6) :
    Calls Tryz.prog 77 #[.pointer (some ⟨g, 0, none⟩)] w fun x w' => x = .returned (.tuple #[]) ∧ Rp w' g (.inr ts) d ∧ But g w w' := by
  have hgl := h.lt
  obtain ⟨b, o, n, c, hq, hw⟩ := h.ok
  obtain ⟨c0, c1, c2, c3⟩ := hq.cells
  obtain ⟨f0, f1, f2, f3⟩ := hq.free
  have hw1 := hw.tail ht
  have hp := hw1.pos
  have hcap := hw1.rd.cap
  have hn := hw.rd.cap
  have hsl : ∀ w', (Instr.slice 41 (.slice (some ⟨b, o, none⟩) n c) (some (.int .i64 1)) none none).run Tryz.prog w' = .ok (.slice (some ⟨b, o + 4, none⟩) (n - 1) (c - 1)) w' := fun w' => by
    have h1 : ¬ c = 1 := by omega
    have h2 : 1 ≤ n := by omega
    have h3 : n ≤ c := by omega
    clear hw hw1 hq
    go_simp
    first | done | (simp [Addr.add]) | omega
  have HR : Hid (Rp (w.setCell ⟨g, 0, none⟩ (.slice (some ⟨b, o + 4, none⟩) (n - 1) (c - 1))) g (.inr ts) d) := hid (Rp.of_ok (hq.set0 _) (hw1.keep (Below.heap_setCell _ _ _ _ (by have := hw.lt; show b ≠ g; omega))))
  generalize hm : n - 1 = m at *
  generalize hc' : c - 1 = c' at *
  clear h hq hw hw1 hm hc'
  go_enter Tryz.func77, Tryz.ntmps77
  go_wp2
  refine bodyPost_end (results_none rfl _ _ _) rfl ⟨rfl, HR.out, But.set _ _ _ _⟩

theorem takeB_nx (s : ByteArray) (S : Sa) : takeB s S = (((nxT S).1 == 2 || (nxT S).1 == 5) && eqS (nxT S).2.1 s) := by
  match S with
  | .inl x => rfl
  | .inr [] => rfl
  | .inr (t :: ts) => rfl

set_option maxRecDepth 100000 in
set_option maxHeartbeats 1000000 in
theorem pIs_any {g : Nat} {S : Sa} {d : Nat} {w : World} (h : Rp w g S d) (s : ByteArray) :
    Calls Tryz.prog 38 #[.pointer (some ⟨g, 0, none⟩), .string s] w fun x w' => x = .returned (.bool (takeB s S)) ∧ Below w.heap.size w w' := by
  have H : Hid _ := hid (pNext_any h)
  rw [takeB_nx]
  unfold tkA at H
  generalize nxT S = t at *
  obtain ⟨t0, t1, t2, t3⟩ := t
  have hs : (t1.toList == s.toList) = eqS t1 s := same_str t1 s
  generalize eqS t1 s = B at *
  clear h
  by_cases h2 : t0 = 2
  · subst h2
    go_enter Tryz.func38, Tryz.ntmps38
    go_wp2_with fail
    refine Calls.mono H.out ?_
    rintro e w1 ⟨rfl, hb1⟩
    clear H
    go_wp2
    go_ret
    exact ⟨by simp, hb1.alloc hb1.size _⟩
  · have g2 : (t0 == 2) = false := by simpa using h2
    by_cases h5 : t0 = 5
    · subst h5
      clear g2 h2
      go_enter Tryz.func38, Tryz.ntmps38
      go_wp2_with fail
      refine Calls.mono H.out ?_
      rintro e w1 ⟨rfl, hb1⟩
      clear H
      go_wp2
      go_ret
      exact ⟨by simp, hb1.alloc hb1.size _⟩
    · have g5 : (t0 == 5) = false := by simpa using h5
      go_enter Tryz.func38, Tryz.ntmps38
      go_wp2_with fail
      refine Calls.mono H.out ?_
      rintro e w1 ⟨rfl, hb1⟩
      clear H
      go_wp2
      go_ret
      exact ⟨by simp [h2, h5], hb1.alloc hb1.size _⟩

theorem takeB_true {s : ByteArray} {S : Sa} (h : takeB s S = true) : ∃ t ts, S = .inr (t :: ts) ∧ t.1 ≠ 6 ∧ takeS s S = .inr ts := by
  match S with
  | .inl x => simp [takeB] at h
  | .inr [] => simp [takeB, isTk] at h
  | .inr (t :: ts) =>
    have h' : isTk s (t :: ts) = true := h
    refine ⟨t, ts, rfl, (isTk_kd h').1, ?_⟩
    simp [takeS, h']
theorem takeB_false {s : ByteArray} {S : Sa} (h : takeB s S = false) : takeS s S = S := by
  match S with
  | .inl x => rfl
  | .inr ts =>
    have h' : isTk s ts = false := h
    simp [takeS, h']

set_option maxRecDepth 100000 in
set_option maxHeartbeats 1000000 in
theorem pTake_any {g : Nat} {S : Sa} {d : Nat} {w : World} (h : Rp w g S d) (s : ByteArray) :
    Calls Tryz.prog 36 #[.pointer (some ⟨g, 0, none⟩), .string s] w fun x w' => x = .returned (.bool (takeB s S)) ∧ Rp w' g (takeS s S) d ∧ But g w w' := by
  have H := pIs_any h s
  cases hB : takeB s S with
  | true =>
    rw [hB] at H
    obtain ⟨t, ts, hS, ht, hT⟩ := takeB_true hB
    rw [hT]
    clear hB hT
    subst hS
    replace H : Hid _ := hid H
    go_enter Tryz.func36, Tryz.ntmps36
    go_wp2_with fail
    refine Calls.mono H.out ?_
    rintro e w1 ⟨rfl, hb1⟩
    have HK : Hid _ := hid (pSkip_any (h.later hb1) ht)
    clear H
    go_wp2_with fail
    refine Calls.mono HK.out ?_
    rintro e w2 ⟨rfl, hr2, hb2⟩
    have hb := (But.of hb1).trans hb2
    clear HK hb1 hb2
    go_wp2
    go_ret
    exact ⟨rfl, hr2, hb⟩
  | false =>
    rw [hB] at H
    rw [takeB_false hB]
    clear hB
    replace H : Hid _ := hid H
    go_enter Tryz.func36, Tryz.ntmps36
    go_wp2_with fail
    refine Calls.mono H.out ?_
    rintro e w1 ⟨rfl, hb1⟩
    clear H
    go_wp2
    go_ret
    exact ⟨rfl, h.later hb1, But.of hb1⟩

end Go.Proofs.YtjlmcnbmhgabpaaGreat
