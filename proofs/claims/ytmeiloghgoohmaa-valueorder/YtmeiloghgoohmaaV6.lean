/- The walks of value.Compare and of the document's CompareValue. -/
import Derived.Test.YtmeiloghgoohmaaV5
import Derived.Deep.RegionHeld3
namespace Go.Proofs.Ytmeiloghgoohmaa
open Go.RowKit
set_option linter.unusedVariables false

set_option maxRecDepth 100000 in
set_option maxHeartbeats 1000000 in
theorem compare_any (k n : Int) (s : ByteArray) (k' n' : Int) (s' : ByteArray) (w : World) :
    Calls Try.prog 13 #[.agg #[.int .i64 k, .int .i64 n, .string s], .agg #[.int .i64 k', .int .i64 n', .string s']] w fun e w' => e = .returned (.int .i64 (cmpV k n (nums s) k' n' (nums s'))) ∧ Below w.heap.size w w' := by
  have HI : Hid (∀ w, _) := fun w => orderInt_any k k' w
  have HJ : Hid (∀ w, _) := fun w => orderInt64_any n n' w
  have HT : Hid (∀ w, _) := fun w => orderText_any s s' w
  have HO : Hid (∀ g w h0 h1 h2, _) := fun g w h0 h1 h2 => or_any (cmpI k k') (cmpI n n') (lexI (nums s) (nums s')) g w h0 h1 h2
  have HE : Hid (cmpV k n (nums s) k' n' (nums s') = orI (cmpI k k') (orI (cmpI n n') (lexI (nums s) (nums s')))) := rfl
  have hb : Below w.heap.size w ((w.alloc (.cells #[.int .i64 k, .int .i64 n, .string s] 24)).alloc (.cells #[.int .i64 k', .int .i64 n', .string s'] 24)) := ((Below.refl _ _).alloc (Nat.le_refl _) _).alloc (by simp) _
  generalize cmpV k n (nums s) k' n' (nums s') = R at *
  generalize cmpI k k' = A at *
  generalize cmpI n n' = B at *
  generalize lexI (nums s) (nums s') = C at *
  go_enter Try.func13, Try.ntmps13
  go_wp2_with fail
  have c0 : ((w.alloc (.cells #[.int .i64 k, .int .i64 n, .string s] 24)).alloc (.cells #[.int .i64 k', .int .i64 n', .string s'] 24)).cell? ⟨w.heap.size, 0, none⟩ = some (.int .i64 k) := by simp [go_sem]
  have c1 : ((w.alloc (.cells #[.int .i64 k, .int .i64 n, .string s] 24)).alloc (.cells #[.int .i64 k', .int .i64 n', .string s'] 24)).cell? ⟨w.heap.size, 1, none⟩ = some (.int .i64 n) := by simp [go_sem]
  have c2 : ((w.alloc (.cells #[.int .i64 k, .int .i64 n, .string s] 24)).alloc (.cells #[.int .i64 k', .int .i64 n', .string s'] 24)).cell? ⟨w.heap.size, 2, none⟩ = some (.string s) := by simp [go_sem]
  have d0 : ((w.alloc (.cells #[.int .i64 k, .int .i64 n, .string s] 24)).alloc (.cells #[.int .i64 k', .int .i64 n', .string s'] 24)).cell? ⟨w.heap.size + 1, 0, none⟩ = some (.int .i64 k') := by simp [go_sem]
  have d1 : ((w.alloc (.cells #[.int .i64 k, .int .i64 n, .string s] 24)).alloc (.cells #[.int .i64 k', .int .i64 n', .string s'] 24)).cell? ⟨w.heap.size + 1, 1, none⟩ = some (.int .i64 n') := by simp [go_sem]
  have d2 : ((w.alloc (.cells #[.int .i64 k, .int .i64 n, .string s] 24)).alloc (.cells #[.int .i64 k', .int .i64 n', .string s'] 24)).cell? ⟨w.heap.size + 1, 2, none⟩ = some (.string s') := by simp [go_sem]
  have hz : w.heap.size ≤ ((w.alloc (.cells #[.int .i64 k, .int .i64 n, .string s] 24)).alloc (.cells #[.int .i64 k', .int .i64 n', .string s'] 24)).heap.size := hb.size
  generalize (w.alloc (.cells #[.int .i64 k, .int .i64 n, .string s] 24)).alloc (.cells #[.int .i64 k', .int .i64 n', .string s'] 24) = W at *
  go_region_held3 (fun w' => w'.cell? ⟨w.heap.size, 0, none⟩ = some (.int .i64 k) ∧ w'.cell? ⟨w.heap.size, 1, none⟩ = some (.int .i64 n) ∧ w'.cell? ⟨w.heap.size, 2, none⟩ = some (.string s) ∧ w'.cell? ⟨w.heap.size + 1, 0, none⟩ = some (.int .i64 k') ∧ w'.cell? ⟨w.heap.size + 1, 1, none⟩ = some (.int .i64 n') ∧ w'.cell? ⟨w.heap.size + 1, 2, none⟩ = some (.string s')) (go_keep)
    (first
    | (go_at_call 24; refine Calls.mono (HI.out _) ?_; rintro e y1 ⟨rfl, rfl⟩)
    | (go_at_call 25; refine Calls.mono (HJ.out _) ?_; rintro e y2 ⟨rfl, rfl⟩)
    | (go_at_call 26; refine Calls.mono (HT.out _) ?_; rintro e y3 ⟨rfl, rfl⟩)
    | (go_at_call 23; refine Calls.mono (HO.out _ _ (by simp [go_sem]) (by simp [go_sem]) (by simp [go_sem])) ?_; rintro e y4 ⟨rfl, rfl⟩))
  all_goals
    go_wp2
    go_ret
    exact ⟨by rw [HE.out]; rfl, by first | exact (hb.drew.alloc hz _) | exact (hb.alloc hz _).drew⟩

/-- The document's own road. -/
def refC (k n : Int) (l : List Int) (k' n' : Int) (l' : List Int) : Int := if k < k' then -1 else if k' < k then 1 else if k = 1 then cmpI n n' else lexI l l'
theorem refC_eq {k n : Int} {l : List Int} {k' n' : Int} {l' : List Int} (h : mayV k n l = true) (h' : mayV k' n' l' = true) : refC k n l k' n' l' = cmpV k n l k' n' l' := by
  rcases mayV_one h with ⟨rfl, rfl⟩ | ⟨rfl, rfl, _, ht⟩ <;> rcases mayV_one h' with ⟨rfl, rfl⟩ | ⟨rfl, rfl, _, ht'⟩
  · rw [refC, if_neg (by omega), if_neg (by omega), if_pos rfl, cmpV, cmpI_eq, lexI_self, orI, if_pos rfl, orI]
    split <;> omega
  · rfl
  · rfl
  · rw [refC, if_neg (by omega), if_neg (by omega), if_neg (by omega), cmpV, cmpI_eq, cmpI_eq, orI, if_pos rfl, orI, if_pos rfl]

set_option maxRecDepth 100000 in
set_option maxHeartbeats 1000000 in
theorem refCompare_any (k n : Int) (s : ByteArray) (k' n' : Int) (s' : ByteArray) (hs : s.size ≤ 9223372036854775807) (hs' : s'.size ≤ 9223372036854775807) (w : World) :
    Calls Try.prog 14 #[.agg #[.int .i64 k, .int .i64 n, .string s], .agg #[.int .i64 k', .int .i64 n', .string s']] w fun e w' => e = .returned (.int .i64 (refC k n (nums s) k' n' (nums s'))) ∧ Below w.heap.size w w' := by
  have HT : Hid (∀ w, _) := fun w => text_any s s' w hs hs'
  have hb : Below w.heap.size w ((w.alloc (.cells #[.int .i64 k, .int .i64 n, .string s] 24)).alloc (.cells #[.int .i64 k', .int .i64 n', .string s'] 24)) := ((Below.refl _ _).alloc (Nat.le_refl _) _).alloc (by simp) _
  clear hs hs'
  rcases (by omega : k < k' ∨ k = k' ∨ k' < k) with h | h | h
  · rw [show refC k n (nums s) k' n' (nums s') = -1 from by rw [refC, if_pos h]]
    have h1 : decide (k < k') = true := by simpa using h
    go_enter Try.func14, Try.ntmps14
    go_wp2
    go_ret
    exact ⟨rfl, hb⟩
  · subst h
    by_cases h1 : k = 1
    · subst h1
      rw [show refC 1 n (nums s) 1 n' (nums s') = cmpI n n' from by rw [refC, if_neg (by omega), if_neg (by omega), if_pos rfl]]
      rcases (by omega : n < n' ∨ n = n' ∨ n' < n) with h | h | h
      · rw [cmpI_lt h]
        have h1 : decide (n < n') = true := by simpa using h
        go_enter Try.func14, Try.ntmps14
        go_wp2
        go_ret
        exact ⟨rfl, hb⟩
      · subst h
        rw [cmpI_eq]
        go_enter Try.func14, Try.ntmps14
        go_wp2
        go_ret
        exact ⟨rfl, hb⟩
      · rw [cmpI_gt h]
        have h1 : decide (n < n') = false := by simp; omega
        have h2 : decide (n' < n) = true := by simpa using h
        go_enter Try.func14, Try.ntmps14
        go_wp2
        go_ret
        exact ⟨rfl, hb⟩
    · rw [show refC k n (nums s) k n' (nums s') = lexI (nums s) (nums s') from by rw [refC, if_neg (by omega), if_neg (by omega), if_neg h1]]
      have g1 : (k == 1) = false := by simpa using h1
      go_enter Try.func14, Try.ntmps14
      go_wp2_with fail
      refine Calls.mono (HT.out _) ?_
      rintro e w1 ⟨rfl, hb1⟩
      clear HT
      have hb2 := hb.trans (hb1.mono hb.size)
      go_wp2
      go_ret
      exact ⟨rfl, hb2⟩
  · rw [show refC k n (nums s) k' n' (nums s') = 1 from by rw [refC, if_neg (by omega), if_pos h]]
    have h1 : decide (k < k') = false := by simp; omega
    have h2 : decide (k' < k) = true := by simpa using h
    go_enter Try.func14, Try.ntmps14
    go_wp2
    go_ret
    exact ⟨rfl, hb⟩

end Go.Proofs.Ytmeiloghgoohmaa
