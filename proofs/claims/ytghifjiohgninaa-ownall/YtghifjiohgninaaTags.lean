/- The walk of 'label.tagsOf': each two bytes are a tag. -/
import Derived.Test.YtghifjiohgninaaMerge
import Derived.Deep.RegionLaw
import Derived.Laws.BitsAllLaws
namespace Go.Proofs.Ytghifjiohgninaa
open Go.RowKit
set_option linter.unusedVariables false

/-- Two bytes a tag, the higher one first; a byte that is left over is none. -/
def tagsL : List Int → List Int
  | a :: b :: r => (a * 256 + b) :: tagsL r
  | _ => []

/-- The tag of two bytes, as the walk writes it. -/
def tagOr (a b : Int) : Int := bits BinOp.or IntKind.u16 (IntKind.u16.wrap (IntKind.u16.wrap a * 256)) (IntKind.u16.wrap b)

theorem tagOr_eq {a b : Int} (ha : 0 ≤ a ∧ a ≤ 255) (hb : 0 ≤ b ∧ b ≤ 255) : tagOr a b = a * 256 + b := by
  have w1 : IntKind.u16.wrap a = a := by rw [IntKind.wrap_u16]; omega
  have w2 : IntKind.u16.wrap b = b := by rw [IntKind.wrap_u16]; omega
  have w3 : IntKind.u16.wrap (a * 256) = a * 256 := by rw [IntKind.wrap_u16]; omega
  rw [tagOr, w1, w2, w3, u16_or _ _ (by omega) (by omega) (by omega) (by omega)]
  have h := Nat.shiftLeft_add_eq_or_of_lt (i := 8) (b := b.toNat) (by omega) a.toNat
  rw [Nat.shiftLeft_eq] at h
  have e : (a * 256).toNat = a.toNat * 2 ^ 8 := by omega
  rw [e, ← h]
  omega

theorem tagsL_step {bs : List Int} {j : Nat} (h : j + 1 < bs.length) : tagsL (bs.drop j) = (nth bs j * 256 + nth bs (j + 1)) :: tagsL (bs.drop (j + 2)) := by
  rw [drop_nth (by omega), drop_nth h]; rfl

theorem tagsL_end {bs : List Int} {j : Nat} (h : bs.length ≤ j + 1) : tagsL (bs.drop j) = [] := by
  match e : bs.drop j with
  | [] => rfl
  | [_] => rfl
  | a :: b :: r =>
    have := congrArg List.length e
    simp at this
    omega

theorem owns_drew_alloc {w : World} {base e size : Nat} {v : Value} {n : Nat} {xs : List Value} (h : w.ownsRow base e size v n xs) (o : Obj) : (w.drew.alloc o).ownsRow base e size v n xs := World.ownsRow.alloc (w := w.drew) h o

theorem one_new_drew (w : World) (x : Value) (e : TypeId) : ∀ (j : Nat) (u : Value), [x][j]? = some u → (w.drew.alloc (.cells #[x] e)).cell? ((⟨w.heap.size, 0, none⟩ : Addr).add j) = some u := one_new w 1 x e

theorem nth_mem {xs : List Int} {i : Nat} (h : i < xs.length) : nth xs i ∈ xs := by
  rw [nth, List.getElem?_eq_getElem h]; exact List.getElem_mem h

theorem step_append_own {P : Program} {ops : Array Oper} {o : Oper} {a : Act} {w : World} {K : Act → World → Prop} {Q : Exit → Act → World → Prop} {E : Prop}
    (hg : o.guard = none) (s x : Operand) (t : TypeId) (hop : o.op = Op.call { callee := Callee.builtin Builtin.append, args := #[s, x], argTypes := #[t, t] })
    (base : Nat) (e : TypeId) (i : TypeInfo) (z : Value) (size bytes : Nat) (ht : P.underlying t = some (.slice e)) (hi : P.info? e = some i) (hz : i.zero = some z)
    (hsize : i.size = size) (hby : i.bytes = bytes) (hzs : z.cells.size = size) (hsz : 0 < size)
    (v : Value) (n : Nat) (xs : List Value) (hs : a.eval s = v) (hown : w.ownsRow base e size v n xs)
    (ad : Addr) (m c : Nat) (news : List Value) (hx : a.eval x = .slice (some ad) m c) (hl : news.length = m * size) (hnews : ∀ j u, news[j]? = some u → w.cell? (ad.add j) = some u) (h1 : ∀ u ∈ news, u.oneCell' = true)
    (h63 : n + m ≤ maxLen) (hbytes : (n + m) * bytes ≤ 140737488355328) (hbase : base ≤ w.heap.size)
    (hK : ∀ v' w', w'.ownsRow base e size v' (n + m) (xs ++ news) → w.grownBy w' v.ownBlock → K (a.put o.dst v') w') :
    if Region.wanted o (yielded ops a.tmps) = true then Oper.wp P o a w K Q else E := by
  have hw : Region.wanted o (yielded ops a.tmps) = true := by simp [Region.wanted, hg]
  rw [if_pos hw]
  obtain ⟨v', w', hr, h2, h3, _⟩ := run_append_own (P := P) w base t o.type e i z size bytes ht hi hz hsize hby hzs hsz v n xs hown ad m c news hl hnews h1 h63 hbytes hbase
  unfold Oper.wp
  simp [execOp, hop, resolve, invoke, builtin, hs, hx, hr, Result.andThen]
  exact hK v' w' h2 h3

end Go.Proofs.Ytghifjiohgninaa
