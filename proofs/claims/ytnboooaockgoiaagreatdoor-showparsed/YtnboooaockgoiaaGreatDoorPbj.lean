import Derived.Test.YtnboooaockgoiaaGreatDoorPaw
import Derived.Test.YtnboooaockgoiaaGreatDoorPbi
import Derived.Test.YtnboooaockgoiaaGreatDoorTie
import Derived.Test.YtnboooaockgoiaaGreatDoorCards
import Derived.LaidMore
import Derived.Lay
import Derived.Shelf.Vars
import Derived.Stop.Joined
import Derived.Stop.LaidErr
import Derived.SevenTiedAt
import Derived.Test.YtnboooaockgoiaaGreatDoorPbc
import Derived.Test.YtnboooaockgoiaaGreatDoorPab
import Derived.Test.YtnboooaockgoiaaGreatDoorPaq
import Derived.Test.YtnboooaockgoiaaGreatDoorPbd
namespace Go.Proofs.YtnboooaockgoiaaGreatDoor
open Go.ChangeShapes Go.WideShapes Go.ChangeAt Go.RowKit
set_option linter.unusedVariables false
set_option maxRecDepth 100000

theorem gPow : Tryz.prog.globalNamed "internal/strconv.uint64pow10" = some 0 := by kernel_rfl
theorem tPow : (Tryz.prog.globals[0]?).map (·.type) = some 157 := by kernel_rfl
/-- The five listed tables. -/
def laid5 : List (String × DataW Unit) := [("math/bits.deBruijn32tab", Rows.laid_math_bits_deBruijn32tab), ("math/bits.deBruijn64tab", Rows.laid_math_bits_deBruijn64tab), ("internal/strconv.uint64pow10", Rows.laid_internal_strconv_uint64pow10), ("unicode/utf8.acceptRanges", Rows.laid_unicode_utf8_acceptRanges), ("unicode/utf8.first", Rows.laid_unicode_utf8_first)]
theorem pow_data : (Rows.laid_internal_strconv_uint64pow10 : DataW Unit) = Lib.tabData .u64 Lib.pow10Tab := by kernel_rfl
theorem tab_of_laid {W : World} (h : laidMetH Tryz.prog laid5 W) : Lib.TabIs Tryz.prog W "internal/strconv.uint64pow10" .u64 Lib.pow10Tab := by
  rw [MakeChecks.laidMetH_plain _ _ _ (by kernel_rfl)] at h
  have h3 := h.tail.tail
  rw [pow_data] at h3
  exact Lib.tabIs_of_head gPow tPow Tryz.underlying157 Tryz.underlying122 (by kernel_rfl) (by kernel_rfl) h3
theorem globals6 : Tryz.prog.globals.size = 6 := by kernel_rfl
theorem max_of_shape {W : World} (hs : W.ShapedOpen Tryz.prog) : ∃ m, W.cell? ⟨1, 0, none⟩ = some (.int .i64 m) :=
  cell_of_shapedOpen_int (t := 3) (zero := #[.int .i64 0]) hs (by rw [globals6]; decide) (by kernel_rfl) rfl (by kernel_rfl) (by kernel_rfl) Tryz.underlying3
theorem ev_of {W : World} (h : laidMetH Tryz.prog laid5 W) (hs : W.ShapedOpen Tryz.prog) : Ev W.heap.size W := fun w' hb => by
  obtain ⟨m, hm⟩ := max_of_shape hs
  exact ⟨Lib.tabBelow_of_tabIs (tab_of_laid h) w' hb, m, cell_later hb hm⟩
/-- The wrap of a row that lists tables, with the world's shape handed on. -/
theorem handed_laid {H : Type} {enc : TypeId × Value → H} {C : Checked} {os : Os} {f : FuncId} {fn : Func} {s : ChangeSpec} {X : World → Prop}
    (hX : ∀ (w w' : World), w.heap = w'.heap → X w → X w')
    (own : ownKnob C.prog.godebug = none) (started : os.Started) (noInit : C.prog.inits.idxOf? f = none) (hfn : C.prog.funcs[f]? = some fn)
    (witness : ∃ (w : World) (tape : Tape) (i : Input), w.os = os ∧ (w.forCall tape i).Shaped C.prog ∧ i.vars = [] ∧ Input.okWide C.prog (w.forCall tape i) .any w.heap.size f i ∧
      ((s.pre enc C.prog fn [] false (w.forCall tape i).memory i.args ∧ X (w.forCall tape i).memory) ∧ sizedMet enc C.prog fn (OpenSpec.ofChange s) false (w.forCall tape i).memory i.args) ∧ ({} : Assume).holds C.prog (lone (Frame.enter C.prog f i.args .normal) [] (w.forCall tape i)))
    (contract : ∀ (W : World) (base : Nat) (args : Array Value) (ds gs : List (DataW H)) (before : List MemPlace),
      (∀ (j : Nat) t v, fn.params[j]? = some t → args[j]? = some v → Value.okWide C.prog W .any base t v) →
      DataW.Whole enc C.prog fn.params.toList s.vars false W args.toList ds gs before → X W → W.ShapedOpen C.prog →
      Calls C.prog f args W fun e W' => ∃ v, e = .returned v ∧ s.post enc C.prog fn false true false false W args v W') :
    ReturnsInHanded {} C os f .any (fun w args => (s.pre enc C.prog fn [] false w args ∧ X w) ∧ sizedMet enc C.prog fn (OpenSpec.ofChange s) false w args) (s.post enc C.prog fn false true false false) := by
  refine returnsInHanded_of_calls own started noInit witness fun w tape i _ hsh _ hok hpre _ => ?_
  obtain ⟨_, _, _, fn', hfn', _, _, _, _, hval⟩ := hok
  obtain rfl : fn' = fn := Option.some.inj (hfn'.symm.trans hfn)
  obtain ⟨⟨⟨ds, gs, before, hw, _⟩, hx⟩, _⟩ := hpre
  refine (contract (w.forCall tape i) w.heap.size i.args ds gs before hval (DataW.Whole.of_heap (w' := w.forCall tape i) (by rfl) hw) (hX _ _ (by rfl) hx) hsh).mono fun e W' ⟨v, he, hp⟩ => ?_
  subst he
  exact ChangeSpec.post_blind hp

end Go.Proofs.YtnboooaockgoiaaGreatDoor
namespace Go.Proofs.YtnboooaockgoiaaGreatDoor
open Go.RowKit
set_option linter.unusedVariables false
set_option linter.unusedSimpArgs false

/-- A word as Lex makes it, or the end. -/
def TkOK (a : Tk) : Prop := a.1 = 6 ∨ WdOK (wdOf a)
theorem isL_N {c : UInt8} (h : isL c = true) : isN c = true := by simp [isN, h]
theorem name_ok {s : ByteArray} {j : Nat} (hg : got isL s j = true) (h : (nameW s j).er = 0) : TkOK (nameW s j).tk := by
  unfold nameW at h ⊢
  by_cases h16 : 16 < till isN s j - j
  · rw [if_pos h16] at h
    cases h
  · rw [if_neg h16]
    have hl := got_lt hg
    have hc : isL s[j] = true := (got_at (p := isL) hl).symm.trans hg
    have e : bs (s.extract j (till isN s j)) = s[j] :: ((bs s).drop (j + 1)).takeWhile isN := by
      rw [bs_till, drop_at hl, List.takeWhile_cons, if_pos (isL_N hc)]
    have hlen : (((bs s).drop (j + 1)).takeWhile isN).length < 16 := by
      have h1 : till isN s j = j + (((bs s).drop j).takeWhile isN).length := rfl
      rw [drop_at hl, List.takeWhile_cons, if_pos (isL_N hc), List.length_cons] at h1
      omega
    have eq : s.extract j (till isN s j) = ⟨(s[j] :: ((bs s).drop (j + 1)).takeWhile isN).toArray⟩ := bs_ext (by rw [bs_mk]; exact e)
    refine .inr (.inl ⟨s[j], ((bs s).drop (j + 1)).takeWhile isN, hc, ?_, hlen, ?_⟩)
    · rw [List.all_eq_true]
      intro x hx
      exact List.all_eq_true.1 List.all_takeWhile x hx
    · show ((if isW (s.extract j (till isN s j)) then 2 else 1 : Int), s.extract j (till isN s j), (0 : Int)) = _
      rw [eq]
theorem num_ok {s : ByteArray} {j : Nat} (h : (numW s j).er = 0) : TkOK (numW s j).tk := by
  unfold numW at h ⊢
  split at h
  · cases h
  · rename_i h1
    rw [if_neg h1]
    split at h
    · rename_i h2
      rw [if_pos h2]
      exact .inr (.num _ h2)
    · cases h
theorem quo_T : ∀ (n : Nat) (l : List UInt8), l.length ≤ n → (quo l).1.all isT = true := by
  have h39 : ∀ x : UInt8, isB 39 x = true → isT x = true := fun x h => by
    have : x.toNat = 39 := by simpa [isB] using h
    simp [isT, this]
  intro n
  induction n with
  | zero =>
    intro l h
    obtain rfl : l = [] := List.eq_nil_of_length_eq_zero (by omega)
    rfl
  | succ n ih =>
    intro l h
    match l, h with
    | [], _ => rfl
    | [x], _ =>
      rw [quo]
      split
      · rfl
      · split
        · rename_i h2; simp [h2]
        · rfl
    | x :: y :: r, h =>
      rw [quo]
      split
      · rename_i h1
        split
        · have := ih r (by simp at h; omega)
          simp only [List.all_cons, h39 x h1, this, Bool.and_self]
        · rfl
      · split
        · rename_i h2
          have := ih (y :: r) (by simp at h ⊢; omega)
          simp only [List.all_cons, h2, this, Bool.and_self]
        · rfl
theorem quo_ok {s : ByteArray} {j : Nat} (h : (quoW s j).er = 0) : TkOK (quoW s j).tk := by
  unfold quoW at h ⊢
  split at h
  · rename_i h1
    rw [if_pos h1]
    split at h
    · cases h
    · rename_i h2
      rw [if_neg h2]
      exact .inr (.text _ (quo_T _ _ (Nat.le_refl _)) (by omega))
  · cases h
theorem byte_of {n : Nat} {c : UInt8} (h : isB n c = true) (hn : n < 256) : c = UInt8.ofNat n := by
  have : c.toNat = n := by simpa [isB] using h
  rw [← this]
  simp
theorem sgn_ok {s : ByteArray} {j : Nat} (h : (sgnW s j).er = 0) : TkOK (sgnW s j).tk := by
  unfold sgnW at h ⊢
  split at h
  · cases h
  · rename_i h0
    rw [if_neg h0]
    have one : ∀ {c : UInt8} (hl : j < s.size), s[j] = c → s.extract j (j + 1) = ⟨#[c]⟩ := fun {c} hl hc => bs_ext (by
      rw [bs_extract, drop_at hl, hc, Nat.add_sub_cancel_left]
      simp [bs])
    have two : ∀ {c d : UInt8} (hl : j < s.size) (hk : j + 1 < s.size), s[j] = c → s[j + 1] = d → s.extract j (j + 2) = ⟨#[c, d]⟩ := fun {c d} hl hk hc hd => bs_ext (by
      rw [bs_extract, drop_at hl, drop_at hk, hc, hd, Nat.add_sub_cancel_left]
      simp [bs])
    unfold sgn at h0 ⊢
    by_cases h60 : got (isB 60) s j = true
    · rw [if_pos h60] at h0 ⊢
      have hl := got_lt h60
      have hc : s[j] = 60 := by
        rw [got_at hl] at h60
        exact byte_of h60 (by decide)
      by_cases h2 : got (is2 61 62) s (j + 1) = true
      · rw [if_pos h2]
        have hk := got_lt h2
        rw [got_at hk] at h2
        have hd : s[j + 1] = 61 ∨ s[j + 1] = 62 := by
          have : s[j + 1].toNat = 61 ∨ s[j + 1].toNat = 62 := by simpa [is2] using h2
          rcases this with e | e
          · exact .inl (byte_of (n := 61) (by simp [isB, e]) (by decide))
          · exact .inr (byte_of (n := 62) (by simp [isB, e]) (by decide))
        refine .inr (.inr (.inr (.inr (.inr ?_))))
        rcases hd with hd | hd
        · exact ⟨60, [61], .inr (.inl ⟨rfl, .inl rfl⟩), by show ((5 : Int), s.extract j (j + 2), (0 : Int)) = _; rw [two hl hk hc hd]⟩
        · exact ⟨60, [62], .inr (.inl ⟨rfl, .inr rfl⟩), by show ((5 : Int), s.extract j (j + 2), (0 : Int)) = _; rw [two hl hk hc hd]⟩
      · rw [if_neg h2]
        exact .inr (.inr (.inr (.inr (.inr ⟨60, [], .inl ⟨.inl rfl, rfl⟩, by show ((5 : Int), s.extract j (j + 1), (0 : Int)) = _; rw [one hl hc]⟩))))
    · rw [if_neg h60] at h0 ⊢
      by_cases h62 : got (isB 62) s j = true
      · rw [if_pos h62] at h0 ⊢
        have hl := got_lt h62
        have hc : s[j] = 62 := by
          rw [got_at hl] at h62
          exact byte_of h62 (by decide)
        by_cases h2 : got (isB 61) s (j + 1) = true
        · rw [if_pos h2]
          have hk := got_lt h2
          rw [got_at hk] at h2
          have hd : s[j + 1] = 61 := byte_of h2 (by decide)
          exact .inr (.inr (.inr (.inr (.inr ⟨62, [61], .inr (.inr ⟨rfl, rfl⟩), by show ((5 : Int), s.extract j (j + 2), (0 : Int)) = _; rw [two hl hk hc hd]⟩))))
        · rw [if_neg h2]
          exact .inr (.inr (.inr (.inr (.inr ⟨62, [], .inl ⟨.inr rfl, rfl⟩, by show ((5 : Int), s.extract j (j + 1), (0 : Int)) = _; rw [one hl hc]⟩))))
      · rw [if_neg h62] at h0 ⊢
        by_cases hO : got isO s j = true
        · rw [if_pos hO] at h0 ⊢
          have hl := got_lt hO
          rw [got_at hl] at hO
          refine .inr ?_
          show WdOK ((5 : Int), s.extract j (j + 1), (0 : Int))
          rw [one hl rfl]
          exact .sign _ hO
        · rw [if_neg hO] at h0
          exact absurd rfl h0
theorem word_ok {s : ByteArray} {k : Nat} (h : (wordW s k).er = 0) : TkOK (wordW s k).tk := by
  unfold wordW endW at h ⊢
  split at h
  · rename_i h1
    rw [if_pos h1]
    exact .inl rfl
  · rename_i h1
    rw [if_neg h1]
    unfold oneW at h ⊢
    split at h
    · rename_i h2
      rw [if_pos h2]
      exact name_ok h2 h
    · rename_i h2
      rw [if_neg h2]
      split at h
      · rename_i h3
        rw [if_pos h3]
        exact num_ok h
      · rename_i h3
        rw [if_neg h3]
        split at h
        · rename_i h4
          rw [if_pos h4]
          exact quo_ok h
        · rename_i h4
          rw [if_neg h4]
          exact sgn_ok h
def TksOK (ts : List Tk) : Prop := ∀ a ∈ ts, TkOK a
theorem lex_ok {s : ByteArray} {l : List Tk} {a e : Int} (h : LexR s l a e) : TksOK l := by
  rcases h with ⟨_, rfl, _, _⟩ | ⟨_, h⟩
  · exact fun x hx => absurd hx (by simp)
  · refine Lx.all (fun k l a e => TksOK l) ?_ ?_ ?_ ?_ h
    · intro k h1 x hx; exact absurd hx (by simp)
    · intro k h1 h2 x hx
      obtain rfl : x = (wordW s k).tk := by simpa using hx
      exact word_ok h1
    · intro k l h1 h2 h3 ih x hx
      rcases List.mem_cons.1 hx with rfl | hx
      · exact word_ok h1
      · exact ih x hx
    · intro k a e h1 h2 h3 h4 ih; exact ih

end Go.Proofs.YtnboooaockgoiaaGreatDoor
namespace Go.Proofs.YtnboooaockgoiaaGreatDoor
open Go.RowKit
set_option linter.unusedVariables false
set_option linter.unusedSimpArgs false

end Go.Proofs.YtnboooaockgoiaaGreatDoor
namespace Go.Proofs.YtnboooaockgoiaaGreatDoor
open Go.RowKit
set_option linter.unusedVariables false
set_option linter.unusedSimpArgs false

end Go.Proofs.YtnboooaockgoiaaGreatDoor
namespace Go.Proofs.YtnboooaockgoiaaGreatDoor
open Go.RowKit
set_option linter.unusedVariables false
set_option linter.unusedSimpArgs false

theorem isTk_end {s : ByteArray} {E : Tk} (hE : E.1 = 6) : isTk s [E] = false := by simp [isTk, hE]
theorem oneOf_end {E : Tk} (hE : E.1 = 6) : ∀ l : List (ByteArray × Int), oneOf l [E] = 0
  | [] => rfl
  | c :: l => by rw [oneOf, isTk_end hE, if_neg (by simp), oneOf_end hE l]
theorem oneOf_nil : ∀ l : List (ByteArray × Int), oneOf l [] = 0
  | [] => rfl
  | c :: l => by rw [oneOf, if_neg (by simp [isTk]), oneOf_nil l]
theorem oneOf_ne {l : List (ByteArray × Int)} {ts : List Tk} (h : oneOf l ts ≠ 0) : ts.tail.length < ts.length := by
  cases ts with
  | nil => exact absurd (oneOf_nil l) h
  | cons a ts => simp
theorem isTk_lt {s : ByteArray} {ts : List Tk} (h : isTk s ts = true) : ts.tail.length < ts.length := by
  cases ts with
  | nil => cases h
  | cons a ts => simp
end Go.Proofs.YtnboooaockgoiaaGreatDoor
namespace Go.Proofs.YtnboooaockgoiaaGreatDoor
open Go.RowKit
set_option linter.unusedVariables false
set_option linter.unusedSimpArgs false

/-- What is read of good words is told by G; for each word that is read there are three units, of which so many are spent. -/
def Md {α : Type} (P : List Tk → Re α) (G : α → Nat → Prop) : Prop := ∀ ts t r, TksOK ts → P ts = .inr (t, r) → TksOK r ∧ ∃ u, G t u ∧ u + 3 * r.length ≤ 3 * ts.length
theorem Md.mono {α : Type} {P : List Tk → Re α} {G G' : α → Nat → Prop} (h : Md P G) (hG : ∀ t u, G t u → G' t u) : Md P G' := fun ts t r ho e => by
  obtain ⟨h1, u, h2, h3⟩ := h ts t r ho e
  exact ⟨h1, u, hG t u h2, h3⟩
theorem Md.bind {α β : Type} {P : List Tk → Re α} {G : α → Nat → Prop} {f : α → List Tk → Re β} {H : α → β → Nat → Prop} (hP : Md P G) (hf : ∀ a, Md (f a) (H a)) : Md (fun ts => thenR (P ts) f) (fun t u => ∃ a u1 u2, G a u1 ∧ H a t u2 ∧ u = u1 + u2) := fun ts t r ho e => by
  obtain ⟨a, q, h1, h2⟩ := thenR_inr e
  obtain ⟨o1, u1, g1, l1⟩ := hP ts a q ho h1
  obtain ⟨o2, u2, g2, l2⟩ := hf a q t r o1 h2
  exact ⟨o2, u1 + u2, ⟨a, u1, u2, g1, g2, rfl⟩, by omega⟩
theorem Md.ret {α : Type} (x : α) : Md (fun ts => .inr (x, ts)) (fun t u => t = x ∧ u = 0) := fun ts t r ho e => by
  cases e
  exact ⟨ho, 0, ⟨rfl, rfl⟩, by omega⟩
theorem Md.map {α β : Type} {P : List Tk → Re α} {G : α → Nat → Prop} (h : Md P G) (g : α → β) : Md (fun ts => mapR g (P ts)) (fun t u => ∃ a, G a u ∧ t = g a) :=
  (h.bind fun a => Md.ret (g a)).mono fun t u ⟨a, u1, u2, h1, ⟨h2, h3⟩, h4⟩ => ⟨a, by rw [h4, h3]; exact h1, h2⟩
theorem Md.fail {α : Type} (G : α → Nat → Prop) : Md (fun ts => (.inl (atOf ts, 5) : Re α)) G := fun ts t r ho e => by cases e
theorem TksOK.tail {ts : List Tk} (h : TksOK ts) : TksOK ts.tail := fun a ha => h a (List.mem_of_mem_tail ha)
theorem Md.disp {α : Type} {s : ByteArray} {P Q : List Tk → Re α} {G H : α → Nat → Prop} (hP : Md P G) (hQ : Md Q H) : Md (fun ts => if isTk s ts then P ts.tail else Q ts) (fun t u => (∃ u1, G t u1 ∧ u = u1 + 3) ∨ H t u) := fun ts t r ho e => by
  dsimp only at e
  split at e
  · rename_i hs
    obtain ⟨o1, u1, g1, l1⟩ := hP _ t r ho.tail e
    have := isTk_lt hs
    exact ⟨o1, u1 + 3, .inl ⟨u1, g1, rfl⟩, by omega⟩
  · obtain ⟨o1, u1, g1, l1⟩ := hQ _ t r ho e
    exact ⟨o1, u1, .inr g1, l1⟩
theorem Md.is {α : Type} {s : ByteArray} {P Q : List Tk → Re α} {G H : α → Nat → Prop} (hP : Md P G) (hQ : Md Q H) : Md (fun ts => if isTk s ts then P ts else Q ts) (fun t u => G t u ∨ H t u) := fun ts t r ho e => by
  dsimp only at e
  split at e
  · obtain ⟨o1, u1, g1, l1⟩ := hP _ t r ho e
    exact ⟨o1, u1, .inl g1, l1⟩
  · obtain ⟨o1, u1, g1, l1⟩ := hQ _ t r ho e
    exact ⟨o1, u1, .inr g1, l1⟩
theorem Md.kd {α : Type} {k : Int} {P Q : List Tk → Re α} {G H : α → Nat → Prop} (hP : Md P G) (hQ : Md Q H) : Md (fun ts => if kdOf ts = k then P ts else Q ts) (fun t u => G t u ∨ H t u) := fun ts t r ho e => by
  dsimp only at e
  split at e
  · obtain ⟨o1, u1, g1, l1⟩ := hP _ t r ho e
    exact ⟨o1, u1, .inl g1, l1⟩
  · obtain ⟨o1, u1, g1, l1⟩ := hQ _ t r ho e
    exact ⟨o1, u1, .inr g1, l1⟩
theorem md_kind {k : Int} (hk : k ≠ 6) : Md (kindP k) (fun a u => a.1 = k ∧ WdOK (wdOf a) ∧ u = 3) := fun ts t r ho e => by
  cases ts with
  | nil => cases e
  | cons a ts =>
    have e' : (if a.1 = k then (.inr (a, ts) : Re Tk) else .inl (a.2.2.2, 5)) = .inr (t, r) := e
    split at e'
    · rename_i h1
      cases e'
      have h2 := ho t (by simp)
      exact ⟨fun x hx => ho x (by simp [hx]), 3, ⟨h1, h2.resolve_left (by rw [h1]; exact hk), rfl⟩, by simp; omega⟩
    · cases e'
theorem wd1 {w : Wd} (h : WdOK w) (h1 : w.1 = 1) : w = nm w.2.1 := by
  rcases h with ⟨c, n, _, _, _, rfl⟩ | ⟨z, _, rfl⟩ | ⟨q, _, _, rfl⟩ | ⟨c, _, rfl⟩ | ⟨c, n, _, rfl⟩
  · have h1' : (if isW ⟨(c :: n).toArray⟩ then (2 : Int) else 1) = 1 := h1
    show ((if isW ⟨(c :: n).toArray⟩ then (2 : Int) else 1), _, _) = _
    rw [h1']
    rfl
  · exact absurd (show (3 : Int) = 1 from h1) (by decide)
  · exact absurd (show (4 : Int) = 1 from h1) (by decide)
  · exact absurd (show (5 : Int) = 1 from h1) (by decide)
  · exact absurd (show (5 : Int) = 1 from h1) (by decide)
theorem wd3 {w : Wd} (h : WdOK w) (h1 : w.1 = 3) : w = (3, ⟨#[]⟩, w.2.2) := by
  rcases h with ⟨c, n, _, _, _, rfl⟩ | ⟨z, _, rfl⟩ | ⟨q, _, _, rfl⟩ | ⟨c, _, rfl⟩ | ⟨c, n, _, rfl⟩
  · have h1' : (if isW ⟨(c :: n).toArray⟩ then (2 : Int) else 1) = 3 := h1
    split at h1' <;> cases h1'
  · rfl
  · exact absurd (show (4 : Int) = 3 from h1) (by decide)
  · exact absurd (show (5 : Int) = 3 from h1) (by decide)
  · exact absurd (show (5 : Int) = 3 from h1) (by decide)
theorem wd4 {w : Wd} (h : WdOK w) (h1 : w.1 = 4) : w = (4, w.2.1, 0) := by
  rcases h with ⟨c, n, _, _, _, rfl⟩ | ⟨z, _, rfl⟩ | ⟨q, _, _, rfl⟩ | ⟨c, _, rfl⟩ | ⟨c, n, _, rfl⟩
  · have h1' : (if isW ⟨(c :: n).toArray⟩ then (2 : Int) else 1) = 4 := h1
    split at h1' <;> cases h1'
  · exact absurd (show (3 : Int) = 4 from h1) (by decide)
  · rfl
  · exact absurd (show (5 : Int) = 4 from h1) (by decide)
  · exact absurd (show (5 : Int) = 4 from h1) (by decide)
theorem md_name : Md nameP (fun x u => WdOK (nm x) ∧ u = 3) :=
  ((md_kind (k := 1) (by decide)).bind fun t => Md.ret t.2.1).mono fun x u ⟨a, u1, u2, ⟨h1, h2, h3⟩, ⟨h4, h5⟩, h6⟩ => by
    subst h4 h5 h3
    rw [wd1 h2 h1] at h2
    exact ⟨h2, by omega⟩
theorem md_want (s : ByteArray) : Md (wantU s) (fun _ u => u = 3) :=
  (Md.disp (s := s) (P := fun ts => .inr ((), ts)) (Q := fun ts => .inl (atOf ts, 5)) (Md.ret ()) (Md.fail fun _ _ => False)).mono fun t u h => by
    rcases h with ⟨u1, ⟨_, h1⟩, h2⟩ | h
    · omega
    · exact h.elim
theorem md_seq {α β γ : Type} {f : α → β → γ} {P : List Tk → Re α} {P' : List Tk → Re β} {G : α → Nat → Prop} {H : β → Nat → Prop} (h : Md P G) (h' : Md P' H) : Md (seqP f P P') (fun t u => ∃ a b u1 u2, G a u1 ∧ H b u2 ∧ t = f a b ∧ u = u1 + u2) :=
  (h.bind fun a => h'.map (f a)).mono fun t u ⟨a, u1, u2, h1, ⟨b, h2, h3⟩, h4⟩ => ⟨a, b, u1, u2, h1, h2, h3, h4⟩
theorem md_opt {α : Type} {s : ByteArray} {z : α} {P : List Tk → Re α} {G : α → Nat → Prop} (h : Md P G) : Md (optP s z P) (fun t u => (∃ u1, G t u1 ∧ u = u1 + 3) ∨ (t = z ∧ u = 0)) := Md.disp h (Md.ret z)
theorem oneOf_mem : ∀ {l : List (ByteArray × Int)} {ts : List Tk}, oneOf l ts ≠ 0 → ∃ c ∈ l, c.2 = oneOf l ts
  | [], ts, h => absurd rfl h
  | c :: l, ts, h => by
    rw [oneOf] at h ⊢
    split at h
    · rename_i hs
      rw [if_pos hs]
      exact ⟨c, by simp, rfl⟩
    · rename_i hs
      rw [if_neg hs]
      obtain ⟨d, hd, e⟩ := oneOf_mem h
      exact ⟨d, by simp [hd], e⟩
theorem Md.ops {α : Type} (l : List (ByteArray × Int)) {P : Int → List Tk → Re α} {Q : List Tk → Re α} {G : Int → α → Nat → Prop} {H : α → Nat → Prop} (hP : ∀ z, Md (P z) (G z)) (hQ : Md Q H) : Md (fun ts => if oneOf l ts = 0 then Q ts else P (oneOf l ts) ts.tail) (fun t u => (∃ z u1, (∃ c ∈ l, c.2 = z) ∧ G z t u1 ∧ u = u1 + 3) ∨ H t u) := fun ts t r ho e => by
  dsimp only at e
  split at e
  · obtain ⟨o1, u1, g1, l1⟩ := hQ _ t r ho e
    exact ⟨o1, u1, .inr g1, l1⟩
  · rename_i hs
    obtain ⟨o1, u1, g1, l1⟩ := hP _ _ t r ho.tail e
    have := oneOf_ne hs
    exact ⟨o1, u1 + 3, .inl ⟨_, u1, oneOf_mem hs, g1, rfl⟩, by omega⟩
theorem md_choice (l : List (ByteArray × Int)) : Md (choiceP l) (fun z u => (∃ c ∈ l, c.2 = z) ∧ u = 3) :=
  (Md.ops l (P := fun z ts => .inr (z, ts)) (Q := fun ts => .inl (atOf ts, 5)) (fun z => Md.ret z) (Md.fail fun _ _ => False)).mono fun t u h => by
    rcases h with ⟨z, u1, h1, ⟨h2, h3⟩, h4⟩ | h
    · subst h2
      exact ⟨h1, by omega⟩
    · exact h.elim

/-- An expression that was read. -/
def EG (t : Tr) (u : Nat) : Prop := (∃ d, Cn d t) ∧ (∀ w ∈ wdE t, WdOK w) ∧ (wdE t).length ≤ u
theorem EG.mono {t : Tr} {u u' : Nat} (h : EG t u) (hu : u ≤ u') : EG t u' := ⟨h.1, h.2.1, Nat.le_trans h.2.2 hu⟩
theorem EG.two {l r : Tr} {a b : Nat} {z : Int} (h : EG l a) (h' : EG r b) (h5 : 5 ≤ z) (h15 : z ≤ 15) : EG (tTwo z.toNat l r) (a + b + 3) := by
  obtain ⟨⟨d, hd⟩, hw, hn⟩ := h
  obtain ⟨⟨d', hd'⟩, hw', hn'⟩ := h'
  obtain ⟨j, rfl⟩ : ∃ j : Nat, z = (j : Int) + 5 := ⟨(z - 5).toNat, by omega⟩
  have hj : j < 11 := by omega
  have e0 : ((j : Int) + 5).toNat = j + 5 := by omega
  rw [e0]
  have e : wdE (tTwo (j + 5) l r) = (5, ⟨#[40]⟩, 0) :: (wdE l ++ opW j :: (wdE r ++ [(5, ⟨#[41]⟩, 0)])) := by
    rw [tTwo, wdE, if_neg (by omega), if_neg (by omega), if_neg (by omega), if_neg (by omega), Nat.add_sub_cancel]
  refine ⟨⟨max d d' + 1, Cn.two hj (hd.mono (Nat.le_max_left _ _)) (hd'.mono (Nat.le_max_right _ _))⟩, ?_, ?_⟩
  · rw [e]
    intro w hm
    rcases List.mem_cons.1 hm with rfl | hm
    · exact okS 40 rfl
    rcases List.mem_append.1 hm with hm | hm
    · exact hw w hm
    rcases List.mem_cons.1 hm with rfl | hm
    · exact ok_op j hj
    rcases List.mem_append.1 hm with hm | hm
    · exact hw' w hm
    · obtain rfl : w = (5, ⟨#[41]⟩, 0) := by simpa using hm
      exact okS 41 rfl
  · rw [e]
    simp only [List.length_cons, List.length_append, List.length_nil]
    omega
theorem EG.neg {l : Tr} {a : Nat} (h : EG l a) : EG (tOne 3 l) (a + 3) := by
  obtain ⟨⟨d, hd⟩, hw, hn⟩ := h
  refine ⟨⟨d + 2, hd.neg⟩, ?_, ?_⟩
  · rw [wdE_one3]
    intro w hm
    rcases List.mem_cons.1 hm with rfl | hm
    · exact okS 40 rfl
    rcases List.mem_cons.1 hm with rfl | hm
    · exact okS 45 rfl
    rcases List.mem_append.1 hm with hm | hm
    · exact hw w hm
    · obtain rfl : w = (5, ⟨#[41]⟩, 0) := by simpa using hm
      exact okS 41 rfl
  · rw [wdE_one3]
    simp only [List.length_cons, List.length_append, List.length_nil]
    omega
theorem EG.not {l : Tr} {a : Nat} (h : EG l a) : EG (tOne 4 l) (a + 3) := by
  obtain ⟨⟨d, hd⟩, hw, hn⟩ := h
  refine ⟨⟨d + 2, hd.not⟩, ?_, ?_⟩
  · rw [wdE_one4]
    intro w hm
    rcases List.mem_cons.1 hm with rfl | hm
    · exact okS 40 rfl
    rcases List.mem_cons.1 hm with rfl | hm
    · exact ok_kw (s := ⟨#[110, 111, 116]⟩) rfl rfl
    rcases List.mem_append.1 hm with hm | hm
    · exact hw w hm
    · obtain rfl : w = (5, ⟨#[41]⟩, 0) := by simpa using hm
      exact okS 41 rfl
  · rw [wdE_one4]
    simp only [List.length_cons, List.length_append, List.length_nil]
    omega
/-- A column that was read. -/
def CG (t : Tr) (u : Nat) : Prop := IsCol t ∧ EG t u
theorem md_column : Md columnP CG := by
  have hc : ∀ a n u, (a = ⟨#[]⟩ ∨ WdOK (nm a)) → WdOK (nm n) → 3 ≤ u → CG (tCol a n) u := fun a n u ha hn hu =>
    ⟨⟨a, n, rfl⟩, ⟨0, Cn.col 0 a n⟩, col_words_ok ha hn, by
      have e : wdE (tCol a n) = if a = ⟨#[]⟩ then [(1, n, 0)] else [(1, a, 0), (5, ⟨#[46]⟩, 0), (1, n, 0)] := rfl
      rw [e]
      split <;> simp <;> omega⟩
  refine (md_name.bind (f := fun n r => if isTk ⟨#[46]⟩ r then thenR (nameP r.tail) fun m r' => .inr (tCol n m, r') else .inr (tCol ⟨#[]⟩ n, r)) fun n => Md.disp (s := ⟨#[46]⟩) (md_name.bind fun m => Md.ret (tCol n m)) (Md.ret (tCol ⟨#[]⟩ n))).mono fun t u h => ?_
  obtain ⟨n, u1, u2, ⟨hn, rfl⟩, h, rfl⟩ := h
  rcases h with ⟨u3, ⟨m, u4, u5, ⟨hm, rfl⟩, ⟨rfl, rfl⟩, rfl⟩, rfl⟩ | ⟨rfl, rfl⟩
  · exact hc n m _ (.inr hn) hm (by omega)
  · exact hc _ n _ (.inl rfl) hn (by omega)
theorem md_leaf : Md leafP EG := by
  refine (Md.kd (k := 3) (P := fun ts => thenR (kindP 3 ts) fun t r => .inr (tInt t.2.2.1, r)) (Q := fun ts => if kdOf ts = 4 then thenR (kindP 4 ts) fun t r => .inr (tText t.2.1, r) else columnP ts) ((md_kind (by decide)).bind fun t => Md.ret (tInt t.2.2.1)) (Md.kd (k := 4) ((md_kind (by decide)).bind fun t => Md.ret (tText t.2.1)) md_column)).mono fun t u h => ?_
  rcases h with ⟨a, u1, u2, ⟨h1, h2, rfl⟩, ⟨rfl, rfl⟩, rfl⟩ | ⟨a, u1, u2, ⟨h1, h2, rfl⟩, ⟨rfl, rfl⟩, rfl⟩ | h
  · rw [wd3 h2 h1] at h2
    refine ⟨⟨0, Cn.int 0 _⟩, fun w hw => ?_, by simp [tInt, wdE]⟩
    obtain rfl : w = (3, ⟨#[]⟩, a.2.2.1) := by simpa [tInt, wdE] using hw
    exact h2
  · rw [wd4 h2 h1] at h2
    refine ⟨⟨0, Cn.text 0 _⟩, fun w hw => ?_, by simp [tText, wdE]⟩
    obtain rfl : w = (4, a.2.1, 0) := by simpa [tText, wdE] using hw
    exact h2
  · exact h.2
def OpL (l : List (ByteArray × Int)) : Prop := ∀ c ∈ l, 5 ≤ c.2 ∧ c.2 ≤ 15
theorem md_chain {P : List Tk → Re Tr} (hP : Md P EG) {l : List (ByteArray × Int)} (hl : OpL l) : Md (chainP P l) EG := by
  have key : ∀ (n : Nat) (x : Tr) (ts : List Tk) (t : Tr) (r : List Tk) (ux : Nat), TksOK ts → EG x ux → chainL P l n x ts = .inr (t, r) → TksOK r ∧ ∃ u, EG t u ∧ u + 3 * r.length ≤ ux + 3 * ts.length := by
    intro n
    induction n with
    | zero => intro x ts t r ux ho hx e; cases e; exact ⟨ho, ux, hx, Nat.le_refl _⟩
    | succ n ih =>
      intro x ts t r ux ho hx e
      rw [chainL] at e
      split at e
      · cases e; exact ⟨ho, ux, hx, Nat.le_refl _⟩
      · rename_i hs
        obtain ⟨y, q, h1, h2⟩ := thenR_inr e
        obtain ⟨o1, u1, g1, l1⟩ := hP _ y q ho.tail h1
        obtain ⟨c, hc, ec⟩ := oneOf_mem hs
        have hz := hl c hc
        obtain ⟨o2, u2, g2, l2⟩ := ih _ q t r (ux + u1 + 3) o1 (EG.two hx g1 (by rw [← ec]; exact hz.1) (by rw [← ec]; exact hz.2)) h2
        have := oneOf_ne hs
        exact ⟨o2, u2, g2, by omega⟩
  intro ts t r ho e
  obtain ⟨x, q, h1, h2⟩ := thenR_inr e
  obtain ⟨o1, u1, g1, l1⟩ := hP _ x q ho h1
  obtain ⟨o2, u2, g2, l2⟩ := key _ x q t r u1 o1 g1 h2
  exact ⟨o2, u2, g2, by omega⟩
/-- What lies within. -/
def MdO (P : Option (List Tk → Re Tr)) : Prop := ∀ p, P = some p → Md p EG
theorem Md.inn {P : Option (List Tk → Re Tr)} (hP : MdO P) {s : ByteArray} {f : Tr → List Tk → Re Tr} {H : Tr → Tr → Nat → Prop} (hf : ∀ x, Md (f x) (H x)) {Q : List Tk → Re Tr} {K : Tr → Nat → Prop} (hQ : Md Q K) : Md (fun ts => if isTk s ts then thenR (inP P ts) f else Q ts) (fun t u => (∃ a u1 u2, EG a u1 ∧ H a t u2 ∧ u = u1 + u2 + 3) ∨ K t u) := fun ts t r ho e => by
  dsimp only at e
  split at e
  · rename_i hs
    cases P with
    | none => cases e
    | some p =>
      obtain ⟨o1, u1, ⟨a, x, y, g1, g2, rfl⟩, l1⟩ := ((hP p rfl).bind hf) _ t r ho.tail e
      have := isTk_lt hs
      exact ⟨o1, x + y + 3, .inl ⟨a, x, y, g1, g2, rfl⟩, by omega⟩
  · obtain ⟨o1, u1, g1, l1⟩ := hQ _ t r ho e
    exact ⟨o1, u1, .inr g1, l1⟩
theorem md_unary {U E : Option (List Tk → Re Tr)} (hU : MdO U) (hE : MdO E) : Md (unaryOf U E) EG := by
  refine (Md.inn (s := ⟨#[45]⟩) (f := fun x r => .inr (tOne 3 x, r)) hU (fun x => Md.ret (tOne 3 x)) (Md.inn (s := ⟨#[40]⟩) (f := fun x r => if isTk ⟨#[41]⟩ r then .inr (x, r.tail) else .inl (atOf r, 5)) hE (fun x => Md.disp (s := ⟨#[41]⟩) (P := fun r => .inr (x, r)) (Q := fun r => .inl (atOf r, 5)) (Md.ret x) (Md.fail fun _ _ => False)) md_leaf)).mono fun t u h => ?_
  rcases h with ⟨a, u1, u2, h1, ⟨rfl, rfl⟩, rfl⟩ | ⟨a, u1, u2, h1, ⟨u3, ⟨rfl, rfl⟩, rfl⟩ | h2, rfl⟩ | h
  · exact h1.neg
  · exact h1.mono (by omega)
  · exact h2.elim
  · exact h
theorem opL_term : OpL opsTerm := fun c hc => by simp [opsTerm] at hc; subst hc; decide
theorem opL_sum : OpL opsSum := fun c hc => by
  simp [opsSum] at hc
  rcases hc with rfl | rfl <;> decide
theorem opL_and : OpL opsAnd := fun c hc => by simp [opsAnd] at hc; subst hc; decide
theorem opL_or : OpL opsOr := fun c hc => by simp [opsOr] at hc; subst hc; decide
theorem opL_comp : OpL opsComp := fun c hc => by
  simp [opsComp] at hc
  rcases hc with rfl | rfl | rfl | rfl | rfl | rfl <;> decide
theorem md_comp {U : List Tk → Re Tr} (hU : Md U EG) : Md (compP U) EG := by
  have hS : Md (sumP U) EG := md_chain (md_chain hU opL_term) opL_sum
  refine (hS.bind (f := fun x r => if oneOf opsComp r = 0 then .inr (x, r) else thenR (sumP U r.tail) fun y r' => .inr (tTwo (oneOf opsComp r).toNat x y, r')) fun x => Md.ops opsComp (P := fun z ts => thenR (sumP U ts) fun y r => .inr (tTwo z.toNat x y, r)) (Q := fun r => .inr (x, r)) (fun z => hS.bind fun y => Md.ret _) (Md.ret x)).mono fun t u h => ?_
  obtain ⟨x, u1, u2, h1, h, rfl⟩ := h
  rcases h with ⟨z, u3, ⟨c, hc, rfl⟩, ⟨y, u4, u5, h2, ⟨rfl, rfl⟩, rfl⟩, rfl⟩ | ⟨rfl, rfl⟩
  · exact (EG.two h1 h2 (opL_comp c hc).1 (opL_comp c hc).2).mono (by omega)
  · exact h1
theorem md_not {N : Option (List Tk → Re Tr)} {U : List Tk → Re Tr} (hN : MdO N) (hU : Md U EG) : Md (notOf N U) EG := by
  refine (Md.inn (s := ⟨#[110, 111, 116]⟩) (f := fun x r => .inr (tOne 4 x, r)) hN (fun x => Md.ret (tOne 4 x)) (md_comp hU)).mono fun t u h => ?_
  rcases h with ⟨a, u1, u2, h1, ⟨rfl, rfl⟩, rfl⟩ | h
  · exact h1.not
  · exact h
theorem md_un (n : Nat) : Md (unaryP n) EG ∧ Md (notP n) EG := by
  induction n with
  | zero =>
    have h1 : Md (unaryP 0) EG := by rw [unaryP_eq]; exact md_unary (fun p e => by cases e) (fun p e => by cases e)
    exact ⟨h1, by rw [notP_eq]; exact md_not (fun p e => by cases e) h1⟩
  | succ n ih =>
    have hE : Md (exprP n) EG := md_chain (md_chain ih.2 opL_and) opL_or
    have h1 : Md (unaryP (n + 1)) EG := by rw [unaryP_eq]; exact md_unary (fun p e => by cases e; exact ih.1) (fun p e => by cases e; exact hE)
    exact ⟨h1, by rw [notP_eq]; exact md_not (fun p e => by cases e; exact ih.2) h1⟩
theorem md_expr (n : Nat) : Md (exprP n) EG := md_chain (md_chain (md_un n).2 opL_and) opL_or
/-- A list that was read. -/
def LG {α : Type} (g : α → Prop) (n : α → Nat) (l : List α) (u : Nat) : Prop := l ≠ [] ∧ (∀ x ∈ l, g x) ∧ (l.map fun x => n x + 1).sum ≤ u + 1
theorem md_list {α : Type} {P : List Tk → Re α} {G : α → Nat → Prop} {g : α → Prop} {n : α → Nat} (hP : Md P G) (hG : ∀ x u, G x u → g x ∧ n x ≤ u) : Md (listP P) (LG g n) := by
  have key : ∀ (k : Nat) (l : List α) (ts : List Tk) (t : List α) (r : List Tk) (ux : Nat), TksOK ts → LG g n l ux → listL P k l ts = .inr (t, r) → TksOK r ∧ ∃ u, LG g n t u ∧ u + 3 * r.length ≤ ux + 3 * ts.length := by
    intro k
    induction k with
    | zero => intro l ts t r ux ho hx e; cases e; exact ⟨ho, ux, hx, Nat.le_refl _⟩
    | succ k ih =>
      intro l ts t r ux ho hx e
      rw [listL] at e
      split at e
      · rename_i hs
        obtain ⟨y, q, h1, h2⟩ := thenR_inr e
        obtain ⟨o1, u1, g1, l1⟩ := hP _ y q ho.tail h1
        obtain ⟨gy, ny⟩ := hG y u1 g1
        obtain ⟨o2, u2, g2, l2⟩ := ih _ q t r (ux + u1 + 3) o1 ⟨by simp, fun z hz => by
          rcases List.mem_append.1 hz with hz | hz
          · exact hx.2.1 z hz
          · obtain rfl : z = y := by simpa using hz
            exact gy, by
          rw [List.map_append, List.sum_append]
          have := hx.2.2
          simp only [List.map_cons, List.map_nil, List.sum_cons, List.sum_nil]
          omega⟩ h2
        have := isTk_lt hs
        exact ⟨o2, u2, g2, by omega⟩
      · cases e; exact ⟨ho, ux, hx, Nat.le_refl _⟩
  intro ts t r ho e
  obtain ⟨x, q, h1, h2⟩ := thenR_inr e
  obtain ⟨o1, u1, g1, l1⟩ := hP _ x q ho h1
  obtain ⟨gx, nx⟩ := hG x u1 g1
  obtain ⟨o2, u2, g2, l2⟩ := key _ [x] q t r u1 o1 ⟨by simp, fun z hz => by
    obtain rfl : z = x := by simpa using hz
    exact gx, by simp; omega⟩ h2
  exact ⟨o2, u2, g2, by omega⟩
theorem md_br {α : Type} {P : List Tk → Re α} {G : α → Nat → Prop} {g : α → Prop} {n : α → Nat} (hP : Md P G) (hG : ∀ x u, G x u → g x ∧ n x ≤ u) : Md (brP P) (fun l u => ∃ u1, LG g n l u1 ∧ u = u1 + 6) :=
  (md_seq (md_want ⟨#[40]⟩) (md_seq (md_list hP hG) (md_want ⟨#[41]⟩))).mono fun l u h => by
    obtain ⟨a, b, u1, u2, rfl, ⟨c, d, u3, u4, h1, rfl, h2, rfl⟩, h3, rfl⟩ := h
    subst h3 h2
    exact ⟨u3, h1, by omega⟩

end Go.Proofs.YtnboooaockgoiaaGreatDoor
