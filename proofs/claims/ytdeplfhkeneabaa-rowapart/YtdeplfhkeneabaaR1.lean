/- Plain facts on rows of values: which rows may be, which bytes they have, what bytes are read as. -/
import Derived.Test.YtdeplfhkeneabaaVd
namespace Go.Proofs.Ytdeplfhkeneabaa
open Go.RowKit
set_option linter.unusedVariables false

theorem map_inj8 : ∀ {l m : List UInt8}, l.map (fun c => (c.toNat : Int)) = m.map (fun c => (c.toNat : Int)) → l = m
  | [], [], _ => rfl
  | [], _ :: _, h => by simp at h
  | _ :: _, [], h => by simp at h
  | x :: l, y :: m, h => by
    rw [List.map_cons, List.map_cons, List.cons.injEq] at h
    rw [map_inj8 h.2, UInt8.toNat_inj.1 (by omega : x.toNat = y.toNat)]
theorem nums_inj {s t : ByteArray} (h : nums s = nums t) : s = t := ByteArray.ext (Array.toList_inj.1 (map_inj8 h))
theorem nums_u8 (s : ByteArray) : U8 (nums s) := by
  intro x hx
  rw [nums, List.mem_map] at hx
  obtain ⟨c, _, rfl⟩ := hx
  have := c.toNat_lt
  omega
theorem str_nums (s : ByteArray) : strOfNums (nums s) = s := nums_inj (nums_str (nums_u8 s))
theorem str_inj {l m : List Int} (hl : U8 l) (hm : U8 m) (h : strOfNums l = strOfNums m) : l = m := by rw [← nums_str hl, ← nums_str hm, h]
theorem str_size (xs : List Int) : (strOfNums xs).size = xs.length := by
  have := congrArg List.length (strOfNums_data xs)
  rw [List.length_map] at this
  rw [← this]; rfl

/-- A value: its kind, its number, its text. -/
abbrev Vl := Int × Int × ByteArray
def mayVl (v : Vl) : Bool := mayV v.1 v.2.1 (nums v.2.2)
def keyVl (v : Vl) : List Int := keyL v.1 v.2.1 (nums v.2.2)
/-- May these values be a row? -/
def mayR (l : List Vl) : Bool := (decide (1 ≤ l.length) && decide (l.length ≤ 6)) && l.all mayVl
def rowL (l : List Vl) : List Int := (l.length : Int) :: l.flatMap keyVl
def putL (l : List Vl) : List Int := if mayR l = true then rowL l else []

/-- The value that bytes begin with. -/
def tkV (b : List Int) : Vl := (tkK b, tkI b, strOfNums (tkT b))
/-- How many bytes the first j values have. -/
def tkM : Nat → List Int → Nat
  | 0, _ => 0
  | j + 1, b => tkM j b + (tkN (b.drop (tkM j b))).toNat
def tkL : Nat → List Int → List Vl
  | 0, _ => []
  | j + 1, b => tkL j b ++ [tkV (b.drop (tkM j b))]
/-- The first fault among j values. -/
def tkS : Nat → List Int → Int
  | 0, _ => 0
  | j + 1, b => if tkS j b = 0 then tkE (b.drop (tkM j b)) else tkS j b
def rowE : List Int → Int
  | [] => 2
  | c :: r => if c < 1 ∨ 6 < c then 3 else if tkS c.toNat r = 0 then (if tkM c.toNat r < r.length then 3 else 0) else tkS c.toNat r
def rowV : List Int → List Vl
  | [] => []
  | c :: r => if rowE (c :: r) = 0 then tkL c.toNat r else []

theorem tkL_len (j : Nat) (b : List Int) : (tkL j b).length = j := by
  induction j with
  | zero => rfl
  | succ j ih => rw [tkL, List.length_append, ih]; rfl
theorem tkS_stop {j : Nat} {b : List Int} (h : tkS j b ≠ 0) : ∀ m, tkS (j + m) b = tkS j b
  | 0 => rfl
  | m + 1 => by
    have ih := tkS_stop h m
    rw [← Nat.add_assoc, tkS, ih, if_neg h]
theorem tkS_at {j n : Nat} {b : List Int} (h : tkS j b = 0) (hj : j < n) (he : tkE (b.drop (tkM j b)) ≠ 0) : tkS n b = tkE (b.drop (tkM j b)) := by
  have h1 : tkS (j + 1) b = tkE (b.drop (tkM j b)) := by rw [tkS, if_pos h]
  have := tkS_stop (j := j + 1) (b := b) (by rw [h1]; exact he) (n - (j + 1))
  rw [show j + 1 + (n - (j + 1)) = n from by omega] at this
  rw [this, h1]

theorem mayR_iff {l : List Vl} : mayR l = true ↔ 1 ≤ l.length ∧ l.length ≤ 6 ∧ ∀ v ∈ l, mayVl v = true := by
  rw [mayR, Bool.and_eq_true, Bool.and_eq_true, decide_eq_true_iff, decide_eq_true_iff, List.all_eq_true]
  constructor
  · rintro ⟨⟨h1, h2⟩, h3⟩; exact ⟨h1, h2, h3⟩
  · rintro ⟨h1, h2, h3⟩; exact ⟨⟨h1, h2⟩, h3⟩

theorem keyVl_u8 {v : Vl} (h : mayVl v = true) : U8 (keyVl v) := keyL_u8 h
theorem keyVl_len {v : Vl} (h : mayVl v = true) : (keyVl v).length ≤ 32 := keyL_len h
theorem keys_u8 {l : List Vl} (h : ∀ v ∈ l, mayVl v = true) : U8 (l.flatMap keyVl) := by
  intro x hx
  rw [List.mem_flatMap] at hx
  obtain ⟨v, hv, hx⟩ := hx
  exact keyVl_u8 (h v hv) x hx
theorem keys_len : ∀ {l : List Vl}, (∀ v ∈ l, mayVl v = true) → (l.flatMap keyVl).length ≤ 32 * l.length
  | [], _ => by simp
  | v :: l, h => by
    have h1 := keyVl_len (h v (by simp))
    have h2 := keys_len (l := l) fun x hx => h x (by simp [hx])
    rw [List.flatMap_cons, List.length_append, List.length_cons]
    omega
theorem rowL_u8 {l : List Vl} (h : mayR l = true) : U8 (rowL l) := by
  obtain ⟨h1, h2, h3⟩ := mayR_iff.1 h
  intro x hx
  rw [rowL, List.mem_cons] at hx
  rcases hx with rfl | hx
  · omega
  · exact keys_u8 h3 x hx
theorem rowL_len {l : List Vl} (h : mayR l = true) : (rowL l).length ≤ 193 := by
  obtain ⟨h1, h2, h3⟩ := mayR_iff.1 h
  have := keys_len h3
  rw [rowL, List.length_cons]
  omega
theorem putL_u8 (l : List Vl) : U8 (putL l) := by
  unfold putL
  split
  · rename_i h; exact rowL_u8 h
  · intro x hx; simp at hx
theorem putL_len (l : List Vl) : (putL l).length ≤ 193 := by
  unfold putL
  split
  · rename_i h; exact rowL_len h
  · simp

theorem split_at {l : List Vl} {j : Nat} (h : j < l.length) : l.flatMap keyVl = (l.take j).flatMap keyVl ++ (keyVl l[j] ++ (l.drop (j + 1)).flatMap keyVl) := by
  have e : l = l.take j ++ (l[j] :: l.drop (j + 1)) := by rw [← List.drop_eq_getElem_cons h, List.take_append_drop]
  have e2 := congrArg (List.flatMap keyVl) e
  rw [List.flatMap_append, List.flatMap_cons] at e2
  exact e2
theorem take_snoc {l : List Vl} {j : Nat} (h : j < l.length) : l.take (j + 1) = l.take j ++ [l[j]] := by
  rw [List.take_add_one, List.getElem?_eq_getElem h]; rfl
theorem tkV_key {v : Vl} (h : mayVl v = true) (hf : Fits v.2.1) (r : List Int) : tkV (keyVl v ++ r) = v ∧ tkE (keyVl v ++ r) = 0 ∧ (tkN (keyVl v ++ r)).toNat = (keyVl v).length := by
  obtain ⟨h1, h2, h3, h4, h5⟩ := tk_key h hf r
  refine ⟨?_, h1, ?_⟩
  · show (tkK (keyL v.1 v.2.1 (nums v.2.2) ++ r), tkI (keyL v.1 v.2.1 (nums v.2.2) ++ r), strOfNums (tkT (keyL v.1 v.2.1 (nums v.2.2) ++ r))) = v
    rw [h2, h3, h4, str_nums]
  · show (tkN (keyL v.1 v.2.1 (nums v.2.2) ++ r)).toNat = _
    rw [h5]
    exact Int.toNat_natCast _

/-- What is written is read again, value by value. -/
theorem tk_keys {l : List Vl} (h : ∀ v ∈ l, mayVl v = true) (hf : ∀ v ∈ l, Fits v.2.1) (r : List Int) : ∀ j, j ≤ l.length → tkS j (l.flatMap keyVl ++ r) = 0 ∧ tkL j (l.flatMap keyVl ++ r) = l.take j ∧ tkM j (l.flatMap keyVl ++ r) = ((l.take j).flatMap keyVl).length
  | 0, _ => ⟨rfl, rfl, rfl⟩
  | j + 1, hj => by
    obtain ⟨h1, h2, h3⟩ := tk_keys h hf r j (by omega)
    have hlt : j < l.length := by omega
    have hd : (l.flatMap keyVl ++ r).drop (tkM j (l.flatMap keyVl ++ r)) = keyVl l[j] ++ ((l.drop (j + 1)).flatMap keyVl ++ r) := by
      rw [h3, split_at hlt, List.append_assoc, List.drop_left, List.append_assoc]
    obtain ⟨k1, k2, k3⟩ := tkV_key (h _ (List.getElem_mem hlt)) (hf _ (List.getElem_mem hlt)) ((l.drop (j + 1)).flatMap keyVl ++ r)
    refine ⟨by rw [tkS, if_pos h1, hd, k2], by rw [tkL, h2, hd, k1, take_snoc hlt], ?_⟩
    rw [tkM, hd, k3, h3, take_snoc hlt, List.flatMap_append, List.length_append]
    simp

theorem row_back {l : List Vl} (h : mayR l = true) (hf : ∀ v ∈ l, Fits v.2.1) : rowE (rowL l) = 0 ∧ rowV (rowL l) = l := by
  obtain ⟨h1, h2, h3⟩ := mayR_iff.1 h
  have k := tk_keys h3 hf [] l.length (Nat.le_refl _)
  rw [List.append_nil, List.take_length] at k
  have e : rowE (rowL l) = 0 := by
    rw [rowL, rowE, if_neg (by omega), Int.toNat_natCast, if_pos k.1, k.2.2, if_neg (by omega)]
  refine ⟨e, ?_⟩
  rw [rowL] at e ⊢
  rw [rowV, if_pos e, Int.toNat_natCast, k.2.1]
theorem row_more {l : List Vl} (h : mayR l = true) (hf : ∀ v ∈ l, Fits v.2.1) (x : Int) : rowE (rowL l ++ [x]) = 3 := by
  obtain ⟨h1, h2, h3⟩ := mayR_iff.1 h
  have k := tk_keys h3 hf [x] l.length (Nat.le_refl _)
  rw [List.take_length] at k
  rw [rowL, List.cons_append, rowE, if_neg (by omega), Int.toNat_natCast, if_pos k.1, k.2.2, if_pos (by simp)]

theorem scan_short : ∀ {l : List Int} {i : Nat}, i + l.length ≤ 30 → (∀ x ∈ l, 32 ≤ x ∧ x ≤ 126) → scanE i l = 2
  | [], i, _, _ => rfl
  | x :: q, i, hl, h => by
    have hx := h x (by simp)
    rw [List.length_cons] at hl
    have hi : ¬ (i = 30 ∨ okB x = false) := by
      have : okB x = true := okB_iff.2 hx
      rw [this]
      simp
      omega
    rw [scanE, if_neg (by omega), if_neg hi]
    exact scan_short (by omega) (fun z hz => h z (by simp [hz]))
/-- A key that is cut off is short. -/
theorem key_cut {k n : Int} {l : List Int} (h : mayV k n l = true) {q : Nat} (hq : q < (keyL k n l).length) : tkE ((keyL k n l).take q) = 2 := by
  cases q with
  | zero => rw [List.take_zero]; rfl
  | succ q =>
    rcases mayV_one h with ⟨rfl, rfl⟩ | ⟨rfl, rfl, hl, ht⟩
    · rw [keyL, if_pos rfl] at hq ⊢
      rw [List.length_cons, be_len] at hq
      rw [List.take_succ_cons, tkE, if_pos rfl, if_pos (by rw [List.length_take, be_len]; omega)]
    · rw [keyL, if_neg (by omega)] at hq ⊢
      rw [List.length_cons, List.length_append, List.length_singleton] at hq
      rw [List.take_succ_cons, tkE, if_neg (by omega), if_pos rfl, List.take_append_of_le_length (by omega)]
      exact scan_short (by rw [List.length_take]; omega) (fun x hx => ht x (List.mem_of_mem_take hx))
theorem keys_cut {l : List Vl} (h : ∀ v ∈ l, mayVl v = true) (hf : ∀ v ∈ l, Fits v.2.1) (q : Nat) (hq : q < (l.flatMap keyVl).length) : ∀ j, j ≤ l.length → tkS j ((l.flatMap keyVl).take q) = 2 ∨ (tkS j ((l.flatMap keyVl).take q) = 0 ∧ tkM j ((l.flatMap keyVl).take q) = ((l.take j).flatMap keyVl).length ∧ ((l.take j).flatMap keyVl).length ≤ q)
  | 0, _ => .inr ⟨rfl, rfl, by simp⟩
  | j + 1, hj => by
    have hlt : j < l.length := by omega
    rcases keys_cut h hf q hq j (by omega) with h1 | ⟨h1, h2, h3⟩
    · exact .inl (by rw [tkS, h1, if_neg (by omega)])
    · have hd : ((l.flatMap keyVl).take q).drop (tkM j ((l.flatMap keyVl).take q)) = (keyVl l[j] ++ (l.drop (j + 1)).flatMap keyVl).take (q - ((l.take j).flatMap keyVl).length) := by
        rw [h2, List.drop_take, split_at hlt, List.drop_left]
      by_cases hc : q - ((l.take j).flatMap keyVl).length < (keyVl l[j]).length
      · rw [List.take_append_of_le_length (by omega)] at hd
        exact .inl (by rw [tkS, if_pos h1, hd]; exact key_cut (h _ (List.getElem_mem hlt)) hc)
      · obtain ⟨m, hm⟩ : ∃ m, q - ((l.take j).flatMap keyVl).length = (keyVl l[j]).length + m := ⟨q - ((l.take j).flatMap keyVl).length - (keyVl l[j]).length, by omega⟩
        rw [hm, List.take_length_add_append] at hd
        obtain ⟨k1, k2, k3⟩ := tkV_key (h _ (List.getElem_mem hlt)) (hf _ (List.getElem_mem hlt)) (((l.drop (j + 1)).flatMap keyVl).take m)
        refine .inr ⟨by rw [tkS, if_pos h1, hd, k2], ?_, ?_⟩
        · rw [tkM, hd, k3, h2, take_snoc hlt, List.flatMap_append, List.length_append]; simp
        · rw [take_snoc hlt, List.flatMap_append, List.length_append, List.flatMap_cons, List.flatMap_nil, List.append_nil]; omega
/-- A row that is cut off is short. -/
theorem row_cut {l : List Vl} (h : mayR l = true) (hf : ∀ v ∈ l, Fits v.2.1) {q : Nat} (hq : q < (rowL l).length) : rowE ((rowL l).take q) = 2 := by
  obtain ⟨h1, h2, h3⟩ := mayR_iff.1 h
  cases q with
  | zero => rw [List.take_zero]; rfl
  | succ q =>
    rw [rowL, List.length_cons] at hq
    rw [rowL, List.take_succ_cons, rowE, if_neg (by omega), Int.toNat_natCast]
    rcases keys_cut h3 hf q (by omega) l.length (Nat.le_refl _) with k | ⟨k1, k2, k3⟩
    · rw [k, if_neg (by omega)]
    · rw [List.take_length] at k3
      omega

/-! What is read is what would be written. -/

theorem num_from_a (l : List Int) (a : Int) : l.foldl (fun a x => a * 256 + x) a = a * ((256 ^ l.length : Nat) : Int) + num l := by
  induction l generalizing a with
  | nil => simp [num]
  | cons x l ih =>
    have e0 : num (x :: l) = x * ((256 ^ l.length : Nat) : Int) + num l := by rw [num, List.foldl_cons, ih, Int.zero_mul, Int.zero_add]
    rw [List.foldl_cons, ih, e0, List.length_cons, Nat.pow_succ]
    generalize 256 ^ l.length = P
    have e1 : ((P * 256 : Nat) : Int) = (P : Int) * 256 := by omega
    rw [e1, Int.add_mul, Int.mul_assoc, Int.mul_comm 256 (P : Int)]
    omega
theorem num_cons (x : Int) (l : List Int) : num (x :: l) = x * ((256 ^ l.length : Nat) : Int) + num l := by
  rw [num, List.foldl_cons, num_from_a, Int.zero_mul, Int.zero_add]
theorem be_more (m a y : Nat) : be m (a * 256 ^ m + y) = be m y := by
  induction m generalizing a with
  | zero => rfl
  | succ m ih =>
    rw [be, be, Nat.pow_succ, Nat.mul_comm (256 ^ m) 256, ← Nat.mul_assoc, ih]
    have hp : 0 < 256 ^ m := Nat.pow_pos (by omega)
    rw [Nat.add_comm (a * 256 * 256 ^ m) y, Nat.add_mul_div_right _ _ hp]
    congr 2
    omega
theorem be_num : ∀ {l : List Int}, U8 l → be l.length (num l).toNat = l
  | [], _ => rfl
  | x :: l, h => by
    have hx := h x (by simp)
    have hl : U8 l := fun z hz => h z (by simp [hz])
    have hn := num_le hl
    obtain ⟨a, rfl⟩ : ∃ a : Nat, x = (a : Int) := ⟨x.toNat, by omega⟩
    obtain ⟨y, hy⟩ : ∃ y : Nat, num l = (y : Int) := ⟨(num l).toNat, by omega⟩
    have ih := be_num hl
    rw [hy] at hn
    have e : (num ((a : Int) :: l)).toNat = a * 256 ^ l.length + y := by
      rw [num_cons, hy, ← Int.natCast_mul, ← Int.natCast_add, Int.toNat_natCast]
    rw [hy, Int.toNat_natCast] at ih
    rw [e, List.length_cons, be, be_more, ih]
    have hp : 0 < 256 ^ l.length := Nat.pow_pos (by omega)
    have hd : (a * 256 ^ l.length + y) / 256 ^ l.length = a := by
      rw [Nat.add_comm, Nat.add_mul_div_right _ _ hp, Nat.div_eq_of_lt (by omega), Nat.zero_add]
    rw [hd, Nat.mod_eq_of_lt (by omega)]
theorem scan_ok : ∀ {r : List Int} {i : Nat}, scanE i r = 0 → i ≤ 30 → i ≤ scanN i r ∧ scanN i r ≤ 30 ∧ scanN i r - i < r.length ∧ r.take (scanN i r - i + 1) = r.take (scanN i r - i) ++ [0] ∧ ∀ x ∈ r.take (scanN i r - i), 32 ≤ x ∧ x ≤ 126
  | [], i, h, _ => by simp [scanE] at h
  | c :: r, i, h, hi => by
    by_cases hc : c = 0
    · subst hc
      rw [scan_zero.2, Nat.sub_self]
      simp
      exact hi
    · by_cases hk : i = 30 ∨ okB c = false
      · rw [scan_form hc hk] at h; omega
      · have h30 : i ≠ 30 := fun e => hk (.inl e)
        have hok : okB c = true := by
          cases e : okB c with
          | true => rfl
          | false => exact absurd (.inr e) hk
        obtain ⟨g1, g2⟩ := scan_go (i := i) (r := r) hc h30 hok
        rw [g1] at h
        rw [g2]
        obtain ⟨k1, k2, k3, k4, k5⟩ := scan_ok h (by omega)
        obtain ⟨m, hm⟩ : ∃ m, scanN (i + 1) r = i + 1 + m := ⟨scanN (i + 1) r - (i + 1), by omega⟩
        rw [hm] at k2 k3 k4 k5 ⊢
        rw [show i + 1 + m - (i + 1) = m from by omega] at k3 k4 k5
        rw [show i + 1 + m - i = m + 1 from by omega]
        refine ⟨by omega, k2, by rw [List.length_cons]; omega, by rw [List.take_succ_cons, List.take_succ_cons, k4]; rfl, ?_⟩
        intro x hx
        rw [List.take_succ_cons, List.mem_cons] at hx
        rcases hx with rfl | hx
        · exact okB_iff.1 hok
        · exact k5 x hx
theorem read_one {b : List Int} (h : tkE b = 0) (hu : U8 b) : mayVl (tkV b) = true ∧ keyVl (tkV b) = b.take (tkN b).toNat ∧ (tkN b).toNat ≤ b.length ∧ Fits (tkV b).2.1 := by
  cases b with
  | nil => simp [tkE] at h
  | cons c r =>
    have hur : U8 r := fun z hz => hu z (by simp [hz])
    have e0 : nth (c :: r) 0 = c := rfl
    by_cases h1 : c = 1
    · subst h1
      have h8 : ¬ r.length < 8 := by
        intro k
        rw [tkE, if_pos rfl, if_pos k] at h
        omega
      have hl : (r.take 8).length = 8 := by rw [List.length_take]; omega
      have hn := num_le (l := r.take 8) fun x hx => hur x (List.mem_of_mem_take hx)
      have hb := be_num (l := r.take 8) fun x hx => hur x (List.mem_of_mem_take hx)
      rw [hl] at hb hn
      have e8 : 256 ^ 8 = 18446744073709551616 := by decide
      have eV : tkV (1 :: r) = (1, num (r.take 8) - 9223372036854775808, strOfNums []) := by
        rw [tkV, tkK, tkI, tkT, h, e0, if_pos rfl, if_pos ⟨rfl, rfl⟩, if_neg (by omega)]; rfl
      have eN : (tkN (1 :: r)).toNat = 9 := by rw [tkN, h, e0, if_pos rfl, if_pos rfl]; rfl
      have es : nums (strOfNums []) = [] := rfl
      refine ⟨?_, ?_, ?_, ?_⟩
      · rw [eV, mayVl, es]; rfl
      · rw [eV, eN, keyVl, es, keyL, if_pos rfl, List.take_succ_cons]
        show 1 :: be 8 (turn (num (r.take 8) - 9223372036854775808)) = _
        rw [show turn (num (r.take 8) - 9223372036854775808) = (num (r.take 8)).toNat from by unfold turn; omega, hb]
      · rw [eN, List.length_cons]; omega
      · rw [eV]
        show Fits (num (r.take 8) - 9223372036854775808)
        unfold Fits
        omega
    · by_cases h2 : c = 2
      · subst h2
        have hs : scanE 0 r = 0 := by rw [tkE, if_neg (by omega), if_pos rfl] at h; exact h
        obtain ⟨k1, k2, k3, k4, k5⟩ := scan_ok hs (by omega)
        rw [Nat.sub_zero] at k3 k4 k5
        have hut : U8 (r.take (scanN 0 r)) := fun x hx => hur x (List.mem_of_mem_take hx)
        have eV : tkV (2 :: r) = (2, 0, strOfNums (r.take (scanN 0 r))) := by
          rw [tkV, tkK, tkI, tkT, h, e0, if_pos rfl, if_neg (by omega), if_pos ⟨rfl, by omega⟩]; rfl
        have eN : (tkN (2 :: r)).toNat = scanN 0 r + 2 := by rw [tkN, h, e0, if_pos rfl, if_neg (by omega), List.tail_cons]; omega
        refine ⟨?_, ?_, ?_, ?_⟩
        · rw [eV, mayVl, nums_str hut]
          show mayV 2 0 (r.take (scanN 0 r)) = true
          have : mayT (r.take (scanN 0 r)) = true := mayT_iff.2 ⟨by rw [List.length_take]; omega, k5⟩
          simp [mayV, this]
        · rw [eV, eN, keyVl, nums_str hut, List.take_succ_cons, k4]
          show keyL 2 0 (r.take (scanN 0 r)) = _
          rw [keyL, if_neg (by omega)]
        · rw [eN, List.length_cons]; omega
        · rw [eV]
          show Fits 0
          unfold Fits
          omega
      · rw [tkE, if_neg h1, if_neg h2] at h; omega
theorem read_all {r : List Int} (hu : U8 r) : ∀ j, tkS j r = 0 → (∀ v ∈ tkL j r, mayVl v = true ∧ Fits v.2.1) ∧ (tkL j r).flatMap keyVl = r.take (tkM j r) ∧ tkM j r ≤ r.length
  | 0, _ => ⟨fun v hv => by simp [tkL] at hv, rfl, by simp [tkM]⟩
  | j + 1, h => by
    have hj : tkS j r = 0 := by
      rw [tkS] at h
      split at h
      · assumption
      · exact h
    rw [tkS, if_pos hj] at h
    obtain ⟨h1, h2, h3⟩ := read_all hu j hj
    obtain ⟨k1, k2, k3, k4⟩ := read_one h fun x hx => hu x (List.mem_of_mem_drop hx)
    rw [List.length_drop] at k3
    refine ⟨?_, ?_, by rw [tkM]; omega⟩
    · intro v hv
      rw [tkL, List.mem_append, List.mem_singleton] at hv
      rcases hv with hv | rfl
      · exact h1 v hv
      · exact ⟨k1, k4⟩
    · rw [tkL, List.flatMap_append, h2, List.flatMap_cons, List.flatMap_nil, List.append_nil, k2, tkM, List.take_add]
/-- Bytes that are read are just those that are written. -/
theorem row_read {b : List Int} (h : rowE b = 0) (hu : U8 b) : mayR (rowV b) = true ∧ rowL (rowV b) = b := by
  cases b with
  | nil => simp [rowE] at h
  | cons c r =>
    rw [rowV, if_pos h]
    have hur : U8 r := fun z hz => hu z (by simp [hz])
    rw [rowE] at h
    by_cases hc : c < 1 ∨ 6 < c
    · rw [if_pos hc] at h; omega
    rw [if_neg hc] at h
    by_cases hs : tkS c.toNat r = 0
    · rw [if_pos hs] at h
      obtain ⟨h1, h2, h3⟩ := read_all hur c.toNat hs
      have hm : ¬ tkM c.toNat r < r.length := by
        intro k
        rw [if_pos k] at h
        omega
      refine ⟨mayR_iff.2 ⟨by rw [tkL_len]; omega, by rw [tkL_len]; omega, fun v hv => (h1 v hv).1⟩, ?_⟩
      rw [rowL, tkL_len, h2, List.take_of_length_le (by omega)]
      congr 1
      omega
    · rw [if_neg hs] at h
      exact absurd h hs
theorem putL_read {b : List Int} (h : rowE b = 0) (hu : U8 b) : putL (rowV b) = b := by
  obtain ⟨h1, h2⟩ := row_read h hu
  rw [putL, if_pos h1, h2]
/-- Unlike rows have unlike bytes. -/
theorem putL_inj {a b : List Vl} (ha : mayR a = true) (hb : mayR b = true) (fa : ∀ v ∈ a, Fits v.2.1) (fb : ∀ v ∈ b, Fits v.2.1) : putL a = putL b ↔ a = b := by
  rw [putL, putL, if_pos ha, if_pos hb]
  constructor
  · intro h
    have := congrArg rowV h
    rwa [(row_back ha fa).2, (row_back hb fb).2] at this
  · rintro rfl; rfl

end Go.Proofs.Ytdeplfhkeneabaa
