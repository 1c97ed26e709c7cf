/- The walk of 'quarantineref1.Join', and plain facts: the document's answers are the code's. -/
import Derived.Test.YtghifjiohgninaaAll
import Derived.Test.YtghifjiohgninaaLatF
namespace Go.Proofs.Ytghifjiohgninaa
open Go.RowKit
set_option linter.unusedVariables false

theorem wpList_append_none2 {P : Program} {w : World} {ops : Array Oper} {rest : List Oper} {o : Oper} {a : Act} {Q : Exit → Act → World → Prop} (hgd : o.guard = none) (s x : Operand) (t t2 : TypeId)
    (ho : o.op = .call { callee := .builtin .append, args := #[s, x], argTypes := #[t, t2] })
    (base : Nat) (e e2 : TypeId) (i : TypeInfo) (size : Nat) (ht : P.underlying t = some (.slice e)) (ht2 : P.underlying t2 = some (.slice e2)) (hi : P.info? e = some i)
    (v : Value) (n : Nat) (xs : List Value) (hs : a.eval s = v) (hown : w.ownsRow base e size v n xs) (hx : a.eval x = .slice none 0 0)
    (h : wpList P ops Q rest (a.put o.dst v) w) : wpList P ops Q (o :: rest) a w := by
  refine wpList_plain hgd fun K hK => ?_
  have hrun := run_append_owned_none (P := P) (w := w) base t o.type e i size ht hi v n xs hown
  obtain ⟨ab, an, ac, hv⟩ : ∃ b n c, v = .slice b n c := by
    rcases hown.2 with ⟨hv, _⟩ | ⟨g, cap, cur, hv, _⟩
    · exact ⟨_, _, _, hv⟩
    · exact ⟨_, _, _, hv⟩
  rw [hv, ← append_types ht ht2, ← hv] at hrun
  unfold Oper.wp
  simp [execOp, ho, resolve, invoke, builtin, hs, hx, hrun, Result.andThen]
  exact hK _ _ h

set_option maxHeartbeats 1000000 in
theorem refJoin_any (ao bo : Option Addr) (n c m d : Nat) (xs ys : List Int) (w : World) (ha : Rd .u16 w ao n c xs) (hb : Rd .u16 w bo m d ys) (hn : n ≤ 100) (hm : m ≤ 100) :
    Calls Try.prog 15 #[.slice ao n c, .slice bo m d] w fun e w' => ∃ oo p q, e = .returned (.slice oo p q) ∧ Rd .u16 w' oo p q (allL (xs ++ ys)) ∧ Below w.heap.size w w' := by
  obtain ⟨i0, hi, hz0, hz1, hz2⟩ := info_parts Try.info33
  have hlx := ha.len
  have hly := hb.len
  have hb0 : Below w.heap.size w (w.alloc (.cells #[] 33)) := (Below.refl w.heap.size w).alloc (Nat.le_refl _) (.cells #[] 33)
  have hm0 := World.ownsRow_made (size := 1) (e := 33) (base := w.heap.size) w #[] 0 (Nat.le_refl _) (Nat.zero_le _) rfl
  subst hlx
  subst hly
  go_enter Try.func15, Try.ntmps15
  rcases ao with _ | ad
  · obtain ⟨-, rfl, rfl⟩ := ha.none_nil
    rcases bo with _ | bd
    · obtain ⟨-, rfl, rfl⟩ := hb.none_nil
      go_wp2_with (first | (at_builtin; refine wpList_append_none2 rfl (.tmp 5) (.tmp 6) 22 23 rfl w.heap.size 33 33 i0 1 Try.underlying22 Try.underlying23 hi _ _ _ rfl hm0 rfl ?_) | (at_builtin; refine wpList_append_none2 rfl (.tmp 7) (.tmp 8) 22 23 rfl w.heap.size 33 33 i0 1 Try.underlying22 Try.underlying23 hi _ _ _ rfl hm0 rfl ?_) | fail)
      obtain ⟨o1, q1, hv, hr⟩ := Rd.of_owns (k := .u16) (out := []) (by simpa using hm0)
      cases hv
      refine (all_any _ _ _ _ _ hr (by simp)).mono ?_
      rintro e w2 ⟨oo, p, q, rfl, hr2, hb2⟩
      go_wp2
      go_ret
      exact ⟨oo, p, q, rfl, hr2, hb0.trans (hb2.mono hb0.size)⟩
    · go_wp2_with (first | (at_builtin; refine wpList_append_none2 rfl (.tmp 5) (.tmp 6) 22 23 rfl w.heap.size 33 33 i0 1 Try.underlying22 Try.underlying23 hi _ _ _ rfl hm0 rfl ?_) | (at_builtin; refine wpList_append_own2 _ rfl (.tmp 7) (.tmp 8) 22 23 rfl w.heap.size 33 33 i0 (.int .u16 0) 1 2 Try.underlying22 Try.underlying23 hi hz0 hz1 hz2 rfl (by decide) _ _ _ rfl hm0 bd ys.length d (ys.map (Value.int .u16)) rfl (by simp) (hb.later hb0).news (ints_one _ _) (by unfold maxLen; omega) (by omega) hb0.size ?_))
      intro v1 w1 hown1 hgrow1 _
      have hB1 : Below w.heap.size w w1 := below_grown hb0 hb0.size hm0 (Nat.le_refl _) hgrow1
      clear hgrow1
      obtain ⟨o1, q1, hv, hr⟩ := Rd.of_owns (k := .u16) (out := ys) (by simpa using hown1)
      rw [hv]
      clear hown1
      go_wp2_with fail
      refine (all_any _ _ _ _ _ hr (by omega)).mono ?_
      rintro e w2 ⟨oo, p, q, rfl, hr2, hb2⟩
      go_wp2
      go_ret
      exact ⟨oo, p, q, rfl, hr2, hB1.trans (hb2.mono hB1.size)⟩
  · go_wp2_with (at_builtin; refine wpList_append_own2 _ rfl (.tmp 5) (.tmp 6) 22 23 rfl w.heap.size 33 33 i0 (.int .u16 0) 1 2 Try.underlying22 Try.underlying23 hi hz0 hz1 hz2 rfl (by decide) _ _ _ rfl hm0 ad xs.length c (xs.map (Value.int .u16)) rfl (by simp) (ha.later hb0).news (ints_one _ _) (by unfold maxLen; omega) (by omega) hb0.size ?_)
    intro v1 w1 hown1 hgrow1 _
    have hB1 : Below w.heap.size w w1 := below_grown hb0 hb0.size hm0 (Nat.le_refl _) hgrow1
    clear hgrow1
    replace hown1 : w1.ownsRow w.heap.size 33 1 v1 xs.length (xs.map (Value.int .u16)) := by simpa using hown1
    rcases bo with _ | bd
    · obtain ⟨-, rfl, rfl⟩ := hb.none_nil
      go_wp2_with (first | (at_builtin; refine wpList_append_none2 rfl (.tmp 7) (.tmp 8) 22 23 rfl w.heap.size 33 33 i0 1 Try.underlying22 Try.underlying23 hi _ _ _ rfl hown1 rfl ?_) | fail)
      obtain ⟨o1, q1, hv, hr⟩ := Rd.of_owns (k := .u16) (out := xs) hown1
      rw [hv]
      refine (all_any _ _ _ _ _ hr (by omega)).mono ?_
      rintro e w2 ⟨oo, p, q, rfl, hr2, hb2⟩
      go_wp2
      go_ret
      exact ⟨oo, p, q, rfl, by rw [List.append_nil]; exact hr2, hB1.trans (hb2.mono hB1.size)⟩
    · go_wp2_with (at_builtin; refine wpList_append_own2 _ rfl (.tmp 7) (.tmp 8) 22 23 rfl w.heap.size 33 33 i0 (.int .u16 0) 1 2 Try.underlying22 Try.underlying23 hi hz0 hz1 hz2 rfl (by decide) _ _ _ rfl hown1 bd ys.length d (ys.map (Value.int .u16)) rfl (by simp) (hb.later hB1).news (ints_one _ _) (by unfold maxLen; omega) (by omega) hB1.size ?_)
      intro v2 w2 hown2 hgrow2 _
      have hB2 : Below w.heap.size w w2 := below_grown hB1 hB1.size hown1 (Nat.le_refl _) hgrow2
      clear hgrow2
      obtain ⟨zs, HZ, hownz, hzl⟩ : ∃ zs : List Int, Hid (zs = xs ++ ys) ∧ w2.ownsRow w.heap.size 33 1 v2 zs.length (zs.map (Value.int .u16)) ∧ zs.length ≤ 200 := ⟨xs ++ ys, rfl, owns_app rfl hown2, by simp; omega⟩
      obtain ⟨o1, q1, hv, hr⟩ := Rd.of_owns hownz
      rw [hv]
      clear hown2 hown1 hownz
      go_wp2_with fail
      refine (all_any _ _ _ _ _ hr (by omega)).mono ?_
      rintro e w3 ⟨oo, p, q, rfl, hr2, hb2⟩
      go_wp2
      go_ret
      exact ⟨oo, p, q, rfl, by rw [← HZ.out]; exact hr2, hB2.trans (hb2.mono hB2.size)⟩

theorem mem_insU {t z : Int} : ∀ {out : List Int}, z ∈ insU t out ↔ z = t ∨ z ∈ out := by
  intro out
  induction out with
  | nil => simp [insU]
  | cons y r ih =>
    rw [insU]
    split
    · rw [List.mem_cons, ih, List.mem_cons]
      constructor
      · rintro (h | h | h) <;> simp [h]
      · rintro (h | h | h) <;> simp [h]
    · split
      · rename_i h1 h2
        subst h2
        simp
      · simp

theorem up_insU {t : Int} : ∀ {out : List Int}, Up out → Up (insU t out) := by
  intro out
  induction out with
  | nil => intro _; exact List.pairwise_singleton _ _
  | cons y r ih =>
    intro h
    have h' := List.pairwise_cons.1 h
    rw [insU]
    split
    · rename_i h1
      refine List.Pairwise.cons (fun z hz => ?_) (ih h'.2)
      rcases mem_insU.1 hz with e | e
      · omega
      · exact h'.1 z e
    · split
      · exact h
      · rename_i h1 h2
        refine List.Pairwise.cons (fun z hz => ?_) h
        rcases List.mem_cons.1 hz with e | e
        · omega
        · have := h'.1 z e; omega

theorem all_fold : ∀ (l out : List Int), Up out → Up (l.foldl (fun out t => insU t out) out) ∧ ∀ z, z ∈ l.foldl (fun out t => insU t out) out ↔ z ∈ out ∨ z ∈ l := by
  intro l
  induction l with
  | nil => intro out h; exact ⟨h, fun z => by simp⟩
  | cons t r ih =>
    intro out h
    have := ih (insU t out) (up_insU h)
    refine ⟨this.1, fun z => ?_⟩
    rw [List.foldl_cons, this.2 z, mem_insU, List.mem_cons]
    constructor
    · rintro ((h | h) | h) <;> simp [h]
    · rintro (h | h | h) <;> simp [h]

theorem up_all (l : List Int) : Up (allL l) := (all_fold l [] List.Pairwise.nil).1
theorem mem_all (l : List Int) (z : Int) : z ∈ allL l ↔ z ∈ l := by
  have := (all_fold l [] List.Pairwise.nil).2 z
  rw [allL, this]; simp

theorem sameB_self (xs : List Int) : sameB xs xs = true := by rw [sameB, cmpL_self]; rfl
theorem sameB_of {xs ys : List Int} (h : xs = ys) : sameB xs ys = true := by rw [h]; exact sameB_self ys

theorem join_same {A B : List Int} (ha : Up A) (hb : Up B) (hl : A.length + B.length < 300) : joinL A B = allL (A ++ B) :=
  up_ext (up_merge ha hb hl) (up_all _) fun z => by rw [mem_join ha hb hl, mem_all, List.mem_append]

theorem up_filter {A : List Int} (h : Up A) (p : Int → Bool) : Up (A.filter p) := List.Pairwise.filter p h

theorem meet_same {A B : List Int} (ha : Up A) (hb : Up B) (hl : A.length + B.length < 300) : meetL A B = keepIn true A B :=
  up_ext (up_merge ha hb hl) (up_filter ha _) fun z => by rw [mem_meet ha hb hl]; simp [keepIn, inB]

theorem minus_same {A B : List Int} (ha : Up A) (hb : Up B) (hl : A.length + B.length < 300) : minusL A B = keepIn false A B :=
  up_ext (up_merge ha hb hl) (up_filter ha _) fun z => by rw [mem_minus ha hb hl]; simp [keepIn, inB]

theorem flows_same {A B : List Int} (ha : Up A) (hb : Up B) : withinB A B = allIn A B := by
  rw [Bool.eq_iff_iff, within_iff ha hb, allIn, List.all_eq_true]
  simp [inB]

end Go.Proofs.Ytghifjiohgninaa
