/- The walk of 'quarantineref1.CompareText': two texts, byte by byte. -/
import Derived.Test.YtgmodalpmicmnaaPut
import Derived.Laws.BytesArg
namespace Go.Proofs.Ytgmodalpmicmnaa
open Go.RowKit
set_option linter.unusedVariables false

/-- A text's bytes as numbers. -/
def nums (s : ByteArray) : List Int := s.data.toList.map fun c => (c.toNat : Int)

theorem nums_len (s : ByteArray) : (nums s).length = s.size := by rw [nums, List.length_map, Array.length_toList]; rfl
theorem nums_nth (s : ByteArray) (k : Nat) (h : k < s.size) : nth (nums s) k = (s[k].toNat : Int) := by
  have h' : k < s.data.size := h
  rw [nth, nums, List.getElem?_map, Array.getElem?_toList, Array.getElem?_eq_getElem h']
  rfl

set_option maxHeartbeats 1000000 in
theorem text_any (s t : ByteArray) (w : World) (hs : s.size ≤ 9223372036854775807) (ht : t.size ≤ 9223372036854775807) :
    Calls Try.prog 33 #[.string s, .string t] w fun e w' => e = .returned (.int .i64 (lexI (nums s) (nums t))) ∧ Below w.heap.size w w' := by
  have hls := nums_len s
  have hlt' := nums_len t
  go_enter Try.func33, Try.ntmps33
  go_wp2
  go_loopw [5] (fun i wr => ∃ k : Nat, k ≤ s.size ∧ k ≤ t.size ∧ i = .int .i64 k ∧ Below w.heap.size w wr ∧ Hid (lexI (nums s) (nums t) = lexI ((nums s).drop k) ((nums t).drop k))) (fun i _ => s.size - (intOf i).toNat)
  case atStart => exact ⟨0, by omega, by omega, rfl, Below.refl _ _, rfl⟩
  case round =>
    obtain ⟨k, hk, hk2, rfl, hB, HE⟩ := hrel
    by_cases h1 : k < s.size
    · by_cases h2 : k < t.size
      · have HX : Hid (lexI (nums s) (nums t) = lexI (((s[k].toNat : Int)) :: (nums s).drop (k + 1)) ((t[k].toNat : Int) :: (nums t).drop (k + 1))) := by
          rw [← nums_nth s k h1, ← nums_nth t k h2, ← drop_nth (by omega), ← drop_nth (by omega)]; exact HE
        clear HE hls hlt'
        rcases (by omega : (s[k].toNat : Int) < (t[k].toNat : Int) ∨ (s[k].toNat : Int) = (t[k].toNat : Int) ∨ (t[k].toNat : Int) < (s[k].toNat : Int)) with h | h | h
        · go_wp2
          go_quiet (fail)
          go_wp2
          go_ret
          exact ⟨ret_int (by rw [HX.out, lexI_lt _ _ h]), below_drewN hB _⟩
        · have HX2 : Hid (lexI (nums s) (nums t) = lexI ((nums s).drop (k + 1)) ((nums t).drop (k + 1))) := by
            have e := HX.out
            rw [h, lexI_eq] at e
            exact e
          have n1 : ¬ (s[k].toNat : Int) < (t[k].toNat : Int) := by omega
          have n2 : ¬ (t[k].toNat : Int) < (s[k].toNat : Int) := by omega
          clear HX h
          go_wp2
          go_quiet (fail)
          go_wp2
          go_quiet (fail)
          go_wp2
          go_roundw
          case rel => exact ⟨k + 1, by omega, by omega, by go_num, by first | exact below_drewN hB _ | exact below_drewN (below_drewN hB _) _, HX2⟩
          case measure => simp only [intOf]; omega
        · go_wp2
          go_quiet (fail)
          go_wp2
          go_quiet (fail)
          go_wp2
          go_ret
          exact ⟨ret_int (by rw [HX.out, lexI_gt _ _ h]), by first | exact below_drewN hB _ | exact below_drewN (below_drewN hB _) _⟩
      · go_wp2
        go_ret
        exact ⟨ret_int (by rw [HE.out, drop_nth (by omega : k < (nums s).length), List.drop_eq_nil_of_le (by omega : (nums t).length ≤ k)]; rfl), hB⟩
    · by_cases h2 : k < t.size
      · go_wp2
        go_ret
        exact ⟨ret_int (by rw [HE.out, drop_nth (by omega : k < (nums t).length), List.drop_eq_nil_of_le (by omega : (nums s).length ≤ k)]; rfl), hB⟩
      · go_wp2
        go_ret
        exact ⟨ret_int (by rw [HE.out, List.drop_eq_nil_of_le (by omega : (nums t).length ≤ k), List.drop_eq_nil_of_le (by omega : (nums s).length ≤ k)]; rfl), hB⟩

/-- Bytes made a text, and its numbers again. -/
theorem nums_str {xs : List Int} (h : ∀ x ∈ xs, 0 ≤ x ∧ x ≤ 255) : nums (strOfNums xs) = xs := by
  rw [nums, strOfNums_data, List.map_map]
  induction xs with
  | nil => rfl
  | cons x r ih =>
    rw [List.map_cons, ih fun z hz => h z (by simp [hz])]
    have := h x (by simp)
    have e : ((UInt8.ofNat x.toNat).toNat : Int) = x := by
      rw [UInt8.toNat_ofNat']
      omega
    simp only [Function.comp]
    rw [e]

theorem putL_u8 {l : List Int} (hu : U16 l) (hl : l.length ≤ 8) : ∀ x ∈ putL l, 0 ≤ x ∧ x ≤ 255 := by
  intro x hx
  rw [putL, List.mem_cons] at hx
  rcases hx with e | hx
  · omega
  · obtain ⟨t, ht, hx⟩ := List.mem_flatMap.1 hx
    have := hu t ht
    simp only [List.mem_cons, List.not_mem_nil, or_false] at hx
    rcases hx with e | e <;> omega

theorem tagsB_cons (t : Int) (l : List Int) : tagsB (t :: l) = t / 256 :: t % 256 :: tagsB l := by simp [tagsB]

theorem lexI_tags : ∀ {A B : List Int}, A.length = B.length → U16 A → U16 B → lexI (tagsB A) (tagsB B) = lexI A B := by
  intro A
  induction A with
  | nil => intro B h _ _; cases B with
    | nil => rfl
    | cons y r => simp at h
  | cons x r ih =>
    intro B h ha hb
    cases B with
    | nil => simp at h
    | cons y q =>
      have hx := ha x (by simp)
      have hy := hb y (by simp)
      rw [tagsB_cons, tagsB_cons]
      have hih := ih (B := q) (by simpa using h) (fun z hz => ha z (by simp [hz])) (fun z hz => hb z (by simp [hz]))
      rcases (by omega : x < y ∨ x = y ∨ y < x) with e | e | e
      · rw [lexI_lt _ _ e]
        rcases (by omega : x / 256 < y / 256 ∨ (x / 256 = y / 256 ∧ x % 256 < y % 256)) with k | ⟨k1, k2⟩
        · rw [lexI_lt _ _ k]
        · rw [k1, lexI_eq, lexI_lt _ _ k2]
      · subst e
        rw [lexI_eq, lexI_eq, lexI_eq, hih]
      · rw [lexI_gt _ _ e]
        rcases (by omega : y / 256 < x / 256 ∨ (x / 256 = y / 256 ∧ y % 256 < x % 256)) with k | ⟨k1, k2⟩
        · rw [lexI_gt _ _ k]
        · rw [k1, lexI_eq, lexI_gt _ _ k2]

/-- The bytes of labels stand as labels do. -/
theorem lexI_put {A B : List Int} (ha : U16 A) (hb : U16 B) : lexI (putL A) (putL B) = cmpL A B := by
  rw [putL, putL]
  rcases (by omega : A.length < B.length ∨ A.length = B.length ∨ B.length < A.length) with e | e | e
  · rw [lexI_lt _ _ (by omega), cmpL_lt e]
  · rw [e, lexI_eq, lexI_tags e ha hb, cmpL_eq e]
  · rw [lexI_gt _ _ (by omega), cmpL_gt e]

end Go.Proofs.Ytgmodalpmicmnaa
