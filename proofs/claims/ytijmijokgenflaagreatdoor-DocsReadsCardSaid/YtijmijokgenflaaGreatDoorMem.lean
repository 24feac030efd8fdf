/- What a slice of bytes holds: 'Lies w p l': the bytes l lie at p (nil, or no byte: wherever). How it is carried, read as a string, and got out of what a call owns. No number of a program stands here. -/
import Derived.WalkKit
import Derived.WalkSpells
import Derived.WalkLawsBesides
import Derived.Laws.BytesArg
import Derived.Laws.AppendOwnNone
import Derived.ArgAppend
import Derived.Deep.RegionLawGrows
import Derived.Lib.Hide
import Derived.Lib.AppendStr
import Derived.OpenShut
namespace Go.Proofs.YtijmijokgenflaaGreatDoor
open Go Go.RowKit

theorem thenBelow {a b c : World} (h : Below a.heap.size a b) (k : Below b.heap.size b c) : Below a.heap.size a c := h.trans (k.mono h.size)
/-- the numbers of bytes -/
def nums (l : List UInt8) : List Int := l.map fun b => (b.toNat : Int)
/-- the cells of bytes -/
def bys (l : List UInt8) : List Value := l.map fun b => Value.int .u8 (b.toNat : Int)

theorem nums_length (l : List UInt8) : (nums l).length = l.length := by simp [nums]
theorem bys_length (l : List UInt8) : (bys l).length = l.length := by simp [bys]
theorem bys_append (a b : List UInt8) : bys (a ++ b) = bys a ++ bys b := by simp [bys]
theorem bys_get (l : List UInt8) (i : Nat) (h : i < l.length) : (bys l)[i]? = some (.int .u8 ((l.getD i 0).toNat : Int)) := by
  simp [bys, List.getD, List.getElem?_eq_getElem h]
theorem bys_one (l : List UInt8) : ∀ u ∈ bys l, u.oneCell' = true := by
  intro u hu; obtain ⟨_, _, rfl⟩ := List.mem_map.1 hu; rfl
theorem nums_get (l : List UInt8) (i : Nat) (h : i < l.length) : (nums l).getD i 0 = ((l.getD i 0).toNat : Int) := by
  simp [nums, List.getD, List.getElem?_eq_getElem h]
theorem strOfNums_nums (l : List UInt8) : strOfNums (nums l) = ⟨l.toArray⟩ := by
  unfold strOfNums nums
  rw [List.map_map]
  congr 2
  conv => rhs; rw [← List.map_id l]
  apply List.map_congr_left
  intro b _
  simp

def Lies (w : World) (p : Option Addr) (l : List UInt8) : Prop :=
  l ≠ [] → ∃ b o, p = some ⟨b, o, none⟩ ∧ ∀ i, i < l.length → w.cell? ⟨b, o + i, none⟩ = some (.int .u8 ((l.getD i 0).toNat : Int))

theorem Lies.nil (w : World) (p : Option Addr) : Lies w p [] := fun h => absurd rfl h
theorem Lies.at {w : World} {p : Option Addr} {l : List UInt8} (h : Lies w p l) (h0 : 0 < l.length) :
    ∃ b o, p = some ⟨b, o, none⟩ ∧ b < w.heap.size ∧ ∀ i, i < l.length → w.cell? ⟨b, o + i, none⟩ = some (.int .u8 ((l.getD i 0).toNat : Int)) := by
  obtain ⟨b, o, rfl, hc⟩ := h (by intro e; subst e; simp at h0)
  exact ⟨b, o, rfl, World.block_lt_of_cell? w _ (hc 0 h0), hc⟩
theorem Lies.below {w w' : World} {p : Option Addr} {l : List UInt8} (h : Lies w p l) (hb : Below w.heap.size w w') : Lies w' p l := by
  intro h0
  obtain ⟨b, o, rfl, hc⟩ := h h0
  exact ⟨b, o, rfl, fun i hi => by
    have := hc i hi
    have hlt := World.block_lt_of_cell? w _ this
    rw [hb.cell (p := ⟨b, o + i, none⟩) hlt]; exact this⟩
theorem Lies.mono {w w' : World} {p : Option Addr} {l : List UInt8} {B : Nat} (h : Lies w p l) (hB : B = w.heap.size) (hb : Below B w w') : Lies w' p l := by subst hB; exact h.below hb
theorem Lies.alloc {w : World} {p : Option Addr} {l : List UInt8} (h : Lies w p l) (o : Obj) : Lies (w.alloc o) p l := h.below ((Below.refl _ _).alloc (Nat.le_refl _) o)
theorem Lies.drew {w : World} {p : Option Addr} {l : List UInt8} (h : Lies w p l) : Lies w.drew p l := h.below (Below.refl _ _).drew

/-- a part of what lies -/
theorem Lies.drop {w : World} {b o : Nat} {l : List UInt8} (hc : ∀ i, i < l.length → w.cell? ⟨b, o + i, none⟩ = some (.int .u8 ((l.getD i 0).toNat : Int))) (k m : Nat) (hk : k + m ≤ l.length) :
    Lies w (some ⟨b, o + k, none⟩) ((l.drop k).take m) := by
  intro _
  refine ⟨b, o + k, rfl, fun i hi => ?_⟩
  simp only [List.length_take, List.length_drop] at hi
  rw [Nat.add_assoc, hc (k + i) (by omega)]
  simp [List.getD, List.getElem?_drop, show i < m from by omega]

/-- what is behind the first k, wherever the walk says that it lies -/
theorem Lies.tail {w : World} {b o c k : Nat} {l : List UInt8} (hc : ∀ i, i < l.length → w.cell? ⟨b, o + i, none⟩ = some (.int .u8 ((l.getD i 0).toNat : Int))) (hk : k ≤ l.length) (hlc : l.length ≤ c) (pp : Option Addr) (h : ¬ c = k → pp = some ⟨b, o + k, none⟩) : Lies w pp (l.drop k) := by
  by_cases e : c = k
  · have : l.drop k = [] := List.drop_eq_nil_of_le (by omega)
    rw [this]; exact Lies.nil _ _
  · rw [h e]
    have := Lies.drop (w := w) hc k (l.length - k) (by omega)
    rwa [List.take_of_length_le (by simp)] at this

/-- 'string(b)' -/
theorem Lies.convert {P : Program} {w : World} {p : Option Addr} {l : List UInt8} (h : Lies w p l) (n : Nat) (hn : n = l.length) (c : Nat) (src e dst : TypeId)
    (hs : P.underlying src = some (.slice e)) (he : P.underlying e = some (.int .u8)) (hd : P.underlying dst = some .string) :
    (convert src dst (.slice p n c)).run P w = .ok (.string ⟨l.toArray⟩) w := by
  subst hn
  by_cases h0 : l = []
  · subst h0
    rw [List.length_nil, run_convert_bytes_string w src dst e _ 0 c hs he hd]
    cases p <;> simp [Conv.bytesToString, loadCells]
    all_goals rfl
  · obtain ⟨b, o, rfl, hc⟩ := h h0
    rw [run_convert_bytes_arg w src e hs he b o l.length c (nums l) (nums_length l) (fun i hi => by rw [hc i hi, nums_get l i hi]) dst hd, strOfNums_nums]

/-- what a call owns lies where it is -/
theorem own_lies {w : World} {B : Nat} {e : TypeId} {v : Value} {n : Nat} {l : List UInt8} (h : w.ownsRow B e 1 v n (bys l)) :
    n = l.length ∧ ∃ p cap, v = .slice p l.length cap ∧ l.length ≤ cap ∧ cap ≤ maxLen ∧ Lies w p l ∧ (p = none → l = [] ∧ cap = 0) := by
  have hlen : n = l.length := by have := h.1; simpa [bys_length] using this.symm
  subst hlen
  refine ⟨rfl, ?_⟩
  have h' := h
  rcases h.2 with ⟨rfl, hn⟩ | ⟨g, cap, cur, rfl, _, _, hnc, hcm, _, _⟩
  · have : l = [] := List.eq_nil_of_length_eq_zero hn
    subst this
    exact ⟨none, 0, rfl, Nat.le_refl _, Nat.zero_le _, Lies.nil _ _, fun _ => ⟨rfl, rfl⟩⟩
  · refine ⟨some ⟨g, 0, none⟩, cap, rfl, hnc, hcm, fun _ => ⟨g, 0, rfl, fun i hi => ?_⟩, fun e => by cases e⟩
    rw [Nat.zero_add, h'.cellAt i (by omega), bys_get l i hi]

/-- what a call that hands back bytes in memory (its own, or what was there) comes to -/
def RetBytes (w : World) (l : List UInt8) (e : Ending) (w' : World) : Prop :=
  ∃ p c, e = .returned (.slice p l.length c) ∧ l.length ≤ c ∧ c ≤ maxLen ∧ (p = none → l = [] ∧ c = 0) ∧ Lies w' p l ∧ Below w.heap.size w w'
theorem RetBytes.of_own {w w' : World} {B : Nat} {ty : TypeId} {v : Value} {n : Nat} {l : List UInt8} {e : Ending} (h : w'.ownsRow B ty 1 v n (bys l)) (he : e = .returned v) (hb : Below w.heap.size w w') : RetBytes w l e w' := by
  obtain ⟨rfl, p, c, rfl, h1, h2, h3, h4⟩ := own_lies h
  exact ⟨p, c, he, h1, h2, h4, h3, hb⟩

/-- what a call that hands back bytes of its own comes to -/
def RetOwn (w : World) (ty : TypeId) (l : List UInt8) (e : Ending) (w' : World) : Prop :=
  ∃ v, e = .returned v ∧ w'.ownsRow w.heap.size ty 1 v l.length (bys l) ∧ Below w.heap.size w w'
theorem RetOwn.bytes {w w' : World} {ty : TypeId} {l : List UInt8} {e : Ending} (h : RetOwn w ty l e w') : RetBytes w l e w' := by
  obtain ⟨v, he, ho, hb⟩ := h
  exact RetBytes.of_own ho he hb
theorem RetOwn.of_own {w w' : World} {ty : TypeId} {v : Value} {n : Nat} {l : List UInt8} {e : Ending} (h : w'.ownsRow w.heap.size ty 1 v n (bys l)) (he : e = .returned v) (hb : Below w.heap.size w w') : RetOwn w ty l e w' := by
  have := (own_lies h).1
  subst this
  exact ⟨v, he, h, hb⟩

/-- the same, from block B on -/
def RetGrow (w : World) (B : Nat) (ty : TypeId) (l : List UInt8) (e : Ending) (w' : World) : Prop :=
  ∃ v, e = .returned v ∧ w'.ownsRow B ty 1 v l.length (bys l) ∧ Below B w w'
theorem RetGrow.of_own {w w' : World} {B : Nat} {ty : TypeId} {v : Value} {n : Nat} {l : List UInt8} {e : Ending} (h : w'.ownsRow B ty 1 v n (bys l)) (he : e = .returned v) (hb : Below B w w') : RetGrow w B ty l e w' := by
  have := (own_lies h).1
  subst this
  exact ⟨v, he, h, hb⟩
theorem RetGrow.own {w w' : World} {ty : TypeId} {l : List UInt8} {e : Ending} (h : RetGrow w w.heap.size ty l e w') : RetOwn w ty l e w' := h

theorem own_mono {w : World} {B B' : Nat} {ty : TypeId} {n : Nat} {v : Value} {xs : List Value} (h : w.ownsRow B ty 1 v n xs) (hB : B' ≤ B) : w.ownsRow B' ty 1 v n xs := by
  refine ⟨h.1, ?_⟩
  rcases h.2 with q | ⟨g, cap, cur, q1, q2, q3⟩
  · exact .inl q
  · exact .inr ⟨g, cap, cur, q1, Nat.le_trans hB q2, q3⟩
theorem RetOwn.after {w w1 w2 : World} {ty : TypeId} {l : List UInt8} {e : Ending} (h : RetOwn w1 ty l e w2) (hb : Below w.heap.size w w1) : RetOwn w ty l e w2 := by
  obtain ⟨v, he, ho, hb2⟩ := h
  exact ⟨v, he, own_mono ho hb.size, thenBelow hb hb2⟩
theorem RetBytes.after {w w1 w2 : World} {l : List UInt8} {e : Ending} (h : RetBytes w1 l e w2) (hb : Below w.heap.size w w1) : RetBytes w l e w2 := by
  obtain ⟨p, c, he, h1, h2, h3, h4, hb2⟩ := h
  exact ⟨p, c, he, h1, h2, h3, h4, thenBelow hb hb2⟩

/-- a law's end: it answers true, and nothing that was there is other -/
def Yes (w : World) (e : Ending) (w' : World) : Prop := e = .returned (.bool true) ∧ Below w.heap.size w w'
theorem ret_bool {a b : Bool} (h : a = b) : Ending.returned (.bool a) = .returned (.bool b) := by rw [h]

theorem cell_alloc {w : World} {a : Addr} {u : Value} (o : Obj) (h : w.cell? a = some u) : (w.alloc o).cell? a = some u := by
  rw [((Below.refl w.heap.size w).alloc (Nat.le_refl _) o).cell (p := a) (World.block_lt_of_cell? w _ h)]; exact h

theorem own_some {w : World} {B : Nat} {ty : TypeId} {v : Value} {n : Nat} {l : List UInt8} (h : w.ownsRow B ty 1 v n (bys l)) (hn : 0 < n) : ∃ g cap, v = .slice (some ⟨g, 0, none⟩) n cap ∧ B ≤ g := by
  rcases h.2 with ⟨_, e⟩ | ⟨g, cap, cur, rfl, hb, _⟩
  · omega
  · exact ⟨g, cap, rfl, hb⟩
theorem bys_set (l : List UInt8) (i : Nat) (b : UInt8) : (bys l).set i (.int .u8 (b.toNat : Int)) = bys (l.set i b) := by simp [bys, List.map_set]
/-- a byte of the call's own read, and written -/
theorem own_cell {w : World} {B : Nat} {ty : TypeId} {g n cap : Nat} {l : List UInt8} (h : w.ownsRow B ty 1 (.slice (some ⟨g, 0, none⟩) n cap) n (bys l)) (i : Nat) (hi : i < l.length) :
    w.cell? ⟨g, i, none⟩ = some (.int .u8 ((l.getD i 0).toNat : Int)) ∧ w.frozen? ⟨g, i, none⟩ = false ∧
    ∀ b : UInt8, (w.setCell ⟨g, i, none⟩ (.int .u8 (b.toNat : Int))).ownsRow B ty 1 (.slice (some ⟨g, 0, none⟩) n cap) n (bys (l.set i b)) := by
  have hn := (own_lies h).1
  refine ⟨by rw [h.cellAt i (by omega), bys_get l i hi], h.frozenAt i, fun b => ?_⟩
  have := (h.stored i (.int .u8 (b.toNat : Int))).1
  rwa [bys_set] at this
/-- a byte's number -/
theorem byte_of {x : Int} (h : (Lit.int .u8 x).wf = true) : ∃ d : UInt8, x = (d.toNat : Int) := by
  have h0 : 0 ≤ x ∧ x < 256 := by simp [Lit.wf, IntKind.min, IntKind.max, IntKind.bits, IntKind.signed] at h; omega
  refine ⟨UInt8.ofNat x.toNat, ?_⟩
  rw [UInt8.toNat_ofNat']
  omega
/-- 'int(uint(a) % uint(n))' -/
theorem uidx (a : Int) (n : Nat) (hn : 0 < n) (hn2 : n ≤ 140737488355328) : ∃ i : Nat, i < n ∧ wrap64 ((IntKind.u64.wrap a).tmod (n : Int)) = (i : Int) ∧ (i : Int) = a % 18446744073709551616 % (n : Int) := by
  have hw : IntKind.u64.wrap a = a % 18446744073709551616 := by simp [IntKind.wrap, IntKind.bits, IntKind.signed]
  have h0 : 0 ≤ a % 18446744073709551616 := Int.emod_nonneg _ (by omega)
  have h1 := Int.emod_nonneg (a % 18446744073709551616) (show (n : Int) ≠ 0 by omega)
  have h2 := Int.emod_lt_of_pos (a % 18446744073709551616) (show (0 : Int) < n by omega)
  refine ⟨(a % 18446744073709551616 % (n : Int)).toNat, by omega, ?_, by omega⟩
  rw [hw, Int.tmod_eq_emod_of_nonneg h0, IntWalk.wrap64_in _ ⟨by omega, by omega⟩]
  omega

/-- the cells that are appended, as the laws on append ask for them -/
theorem Lies.news {w : World} {b o : Nat} {l : List UInt8} (hc : ∀ i, i < l.length → w.cell? ⟨b, o + i, none⟩ = some (.int .u8 ((l.getD i 0).toNat : Int))) :
    ∀ j u, (bys l)[j]? = some u → w.cell? ((⟨b, o, none⟩ : Addr).add j) = some u := by
  intro j u hu
  have hj : j < l.length := by
    have := (List.getElem?_eq_some_iff.1 hu).1
    simpa [bys_length] using this
  rw [bys_get l j hj] at hu
  obtain rfl := Option.some.inj hu
  rw [Addr.add_lit]
  exact hc j hj

/-- bytes that a constant lays -/
theorem lies_lit (w : World) (ty : TypeId) (m : Nat × Nat) (l : List UInt8) (cs : Array Value) (hcs : cs = (bys l).toArray) : Lies (w.alloc (.cells cs ty m)) (some ⟨w.heap.size, 0, none⟩) l := by
  intro _
  refine ⟨w.heap.size, 0, rfl, fun i hi => ?_⟩
  subst hcs
  rw [Nat.zero_add, cell_of_row (w.alloc _) w.heap.size i _ ty m (heap_alloc_new w _)]
  simpa using bys_get l i hi

/-- a type of slices of bytes -/
structure U8 (P : Program) (t e : TypeId) : Prop where
  slice : P.underlying t = some (.slice e)
  info : (P.info? e).map (fun i => (i.zero, i.size, i.bytes)) = some (some (.int .u8 0), 1, 1)

section
variable {P : Program} {t e : TypeId} {ops : Array Oper} {rest : List Oper} {o : Oper} {a : Act} {Q : Exit → Act → World → Prop}

/-- 'out = append(out, x)', out the call's own, x a byte -/
theorem wpList_byte (U : U8 P t e) (w : World) (hg : o.guard = none) (s x : Operand) (ho : o.op = .call { callee := .builtin .append, args := #[s, x], argTypes := #[t, t] })
    (B n : Nat) (l : List UInt8) (v : Value) (hs : a.eval s = v) (hown : w.ownsRow B e 1 v n (bys l)) (X : Int) (b : UInt8) (hx : a.eval x = .slice (some ⟨w.heap.size, 0, none⟩) 1 1) (hX : X = (b.toNat : Int))
    (hlen : n + 1 ≤ 140737488355328) (hB : B ≤ w.heap.size)
    (h : ∀ v' w', w'.ownsRow B e 1 v' (n + 1) (bys (l ++ [b])) → Below B w w' → wpList P ops Q rest (a.put o.dst v') w') : wpList P ops Q (o :: rest) a (w.alloc (.cells #[.int .u8 X] e)) := by
  obtain ⟨i0, hi, hz0, hz1, hz2⟩ := info_parts U.info
  refine wpList_append_own _ hg s x t ho B e i0 (.int .u8 0) 1 1 U.slice hi hz0 hz1 hz2 rfl (by decide) v n (bys l) hs (hown.alloc _) ⟨w.heap.size, 0, none⟩ 1 1 (bys [b]) hx rfl ?_ (bys_one _) (by unfold maxLen; omega) (by omega) (by simp; omega) ?_
  · intro j u hu
    match j, hu with
    | 0, hu => simp [bys] at hu; subst hu; subst hX; simp [Addr.add]
  · intro v' w' h1 h2 _
    refine h v' w' (by rw [bys_append]; exact h1) ?_
    exact ((Below.refl B w).alloc hB _).grown h2 (by simp; omega) (fun k hk => (hown.lt k hk).1)

/-- 'out = append(out, b...)', out the call's own, b bytes that lie somewhere (none of them: wherever) -/
theorem wpList_bytes (U : U8 P t e) (w : World) (hg : o.guard = none) (s x : Operand) (ho : o.op = .call { callee := .builtin .append, args := #[s, x], argTypes := #[t, t] })
    (B n : Nat) (l : List UInt8) (v : Value) (hs : a.eval s = v) (hown : w.ownsRow B e 1 v n (bys l)) (p : Option Addr) (m c : Nat) (l2 : List UInt8) (hx : a.eval x = .slice p m c) (hl : Lies w p l2) (hm : m = l2.length) (hp : p = none → m = 0 ∧ c = 0)
    (hlen : n + m ≤ 140737488355328) (hB : B ≤ w.heap.size)
    (h : ∀ v' w', w'.ownsRow B e 1 v' (n + m) (bys (l ++ l2)) → Below B w w' → wpList P ops Q rest (a.put o.dst v') w') : wpList P ops Q (o :: rest) a w := by
  obtain ⟨i0, hi, hz0, hz1, hz2⟩ := info_parts U.info
  cases p with
  | none =>
    obtain ⟨rfl, rfl⟩ := hp rfl
    obtain rfl : l2 = [] := List.eq_nil_of_length_eq_zero hm.symm
    exact wpList_append_own_none hg s x t ho B e i0 1 U.slice hi v n (bys l) hs hown hx (h v w (by simpa using hown) (Below.refl _ _))
  | some ad =>
    refine wpList_append_own _ hg s x t ho B e i0 (.int .u8 0) 1 1 U.slice hi hz0 hz1 hz2 rfl (by decide) v n (bys l) hs hown ad m c (bys l2) hx (by rw [bys_length]; omega) ?_ (bys_one _) (by unfold maxLen; omega) (by omega) hB ?_
    · by_cases h0 : l2 = []
      · subst h0; intro j u hu; simp [bys] at hu
      · obtain ⟨b, of, e1, hc⟩ := hl h0
        obtain rfl := Option.some.inj e1
        exact Lies.news hc
    · intro v' w' h1 h2 _
      refine h v' w' (by rw [bys_append]; exact h1) ?_
      exact (Below.refl B w).grown h2 hB (fun k hk => (hown.lt k hk).1)

/-- 'make([]byte, 0, n)' -/
theorem wpList_makeBytes (U : U8 P t e) (w : World) (hg : o.guard = none) (x y : Operand) (hop : o.op = Op.makeSlice t x y) (kl kc : IntKind) (C : Int) (n : Nat) (hl : a.eval x = .int kl 0) (hc : a.eval y = .int kc C) (hC : C = (n : Int))
    (hn : n ≤ 281474976710656) (h : ∀ v w', w'.ownsRow w.heap.size e 1 v 0 (bys []) → Below w.heap.size w w' → wpList P ops Q rest (a.put o.dst v) w') : wpList P ops Q (o :: rest) a w := by
  obtain ⟨i0, hi, hz0, hz1, hz2⟩ := info_parts U.info
  refine wpList_make_own w hg x y t hop w.heap.size e i0 (.int .u8 0) 1 U.slice hi hz0 hz1 kl kc C n hl hc hC (by rw [hz2]; omega) (by unfold maxLen; omega) (Nat.le_refl _) ?_
  intro w' h1 h2
  exact h _ w' h1 ((Below.refl _ _).grown h2 (Nat.le_refl _) (by intro k hk; cases hk))

/-- bytes that may be appended to: the call's own; or what came in, without room behind it -/
def Grows (w : World) (B : Nat) (ty : TypeId) (v : Value) (l : List UInt8) : Prop :=
  w.ownsRow B ty 1 v l.length (bys l) ∨ ∃ p, v = .slice p l.length l.length ∧ Lies w p l ∧ (p = none → l = [])
theorem Grows.below {w w' : World} {ty : TypeId} {B : Nat} {p : Option Addr} {l : List UInt8} (h : Lies w p l ∧ (p = none → l = [])) (hb : Below w.heap.size w w') : Grows w' B ty (.slice p l.length l.length) l :=
  .inr ⟨p, rfl, h.1.below hb, h.2⟩

theorem wpList_byteG (U : U8 P t e) (w : World) (hg : o.guard = none) (s x : Operand) (ho : o.op = .call { callee := .builtin .append, args := #[s, x], argTypes := #[t, t] })
    (B : Nat) (l : List UInt8) (v : Value) (hs : a.eval s = v) (hown : Grows w B e v l) (X : Int) (b : UInt8) (hx : a.eval x = .slice (some ⟨w.heap.size, 0, none⟩) 1 1) (hX : X = (b.toNat : Int))
    (hlen : l.length + 1 ≤ 140737488355328) (hB : B ≤ w.heap.size)
    (h : ∀ v' w', w'.ownsRow B e 1 v' (l.length + 1) (bys (l ++ [b])) → Below B w w' → wpList P ops Q rest (a.put o.dst v') w') : wpList P ops Q (o :: rest) a (w.alloc (.cells #[.int .u8 X] e)) := by
  rcases hown with hown | ⟨p, rfl, hl, hp⟩
  · exact wpList_byte U w hg s x ho B l.length l v hs hown X b hx hX hlen hB h
  · obtain ⟨i0, hi, hz0, hz1, hz2⟩ := info_parts U.info
    refine wpList_append_grows _ hg s x t ho e i0 (.int .u8 0) 1 1 U.slice hi hz0 hz1 hz2 rfl (by decide) p l.length l.length (bys l) hs (fun e => by rw [hp e]; exact ⟨rfl, rfl⟩) (by simp [bys]) ?_ ⟨w.heap.size, 0, none⟩ 1 1 (bys [b]) hx rfl ?_ (bys_one _) (by omega) (by unfold maxLen; omega) (by omega) ?_
    · intro ad had j u hu
      by_cases h0 : l = []
      · subst h0; simp [bys] at hu
      · obtain ⟨b', o', e1, hc⟩ := hl h0
        have : some ad = some (⟨b', o', none⟩ : Addr) := had.symm.trans e1
        obtain rfl := Option.some.inj this
        exact cell_alloc _ (Lies.news hc j u hu)
    · intro j u hu
      match j, hu with
      | 0, hu => simp [bys] at hu; subst hu; subst hX; simp [Addr.add]
    · intro v' w' h1 h2
      refine h v' w' ?_ ?_
      · rw [bys_append]
        refine ⟨h1.1, ?_⟩
        rcases h1.2 with q | ⟨g, cap, cur, q1, q2, q3⟩
        · exact .inl q
        · exact .inr ⟨g, cap, cur, q1, Nat.le_trans hB (Nat.le_trans (by simp) q2), q3⟩
      · exact ((Below.refl B w).alloc hB _).grown h2 (by simp; omega) (by intro k hk; cases hk)

/-- the same, as one step of a statement that leaves its order open -/
theorem step_byteG (U : U8 P t e) {w : World} {K : Act → World → Prop} {E : Prop} {Q : Exit → Act → World → Prop} (hg : o.guard = none) (s x : Operand) (ho : o.op = .call { callee := .builtin .append, args := #[s, x], argTypes := #[t, t] })
    (B : Nat) (l : List UInt8) (v : Value) (hs : a.eval s = v) (hown : Grows w B e v l) (ad : Addr) (b : UInt8) (hx : a.eval x = .slice (some ad) 1 1) (hX : w.cell? ad = some (.int .u8 (b.toNat : Int)))
    (hlen : l.length + 1 ≤ 140737488355328) (hB : B ≤ w.heap.size)
    (h : ∀ v' w', w'.ownsRow B e 1 v' (l.length + 1) (bys (l ++ [b])) → Below B w w' → K (a.put o.dst v') w') :
    if Region.wanted o (yielded ops a.tmps) = true then Oper.wp P o a w K Q else E := by
  obtain ⟨i0, hi, hz0, hz1, hz2⟩ := info_parts U.info
  have hnews : ∀ j u, (bys [b])[j]? = some u → w.cell? (ad.add j) = some u := by
    intro j u hu
    match j, hu with
    | 0, hu => simp [bys] at hu; subst hu; rw [show ad.add 0 = ad from by cases ad; simp [Addr.add]]; exact hX
  rcases hown with hown | ⟨p, rfl, hl, hp⟩
  · have hw : Region.wanted o (yielded ops a.tmps) = true := by simp [Region.wanted, hg]
    rw [if_pos hw]
    obtain ⟨v', w', hrun, h1, h2, _⟩ := run_append_own (P := P) w B t o.type e i0 (.int .u8 0) 1 1 U.slice hi hz0 hz1 hz2 rfl (by decide) v l.length (bys l) hown ad 1 1 (bys [b]) rfl hnews (bys_one _) (by unfold maxLen; omega) (by omega) hB
    unfold Oper.wp
    simp [execOp, ho, resolve, invoke, builtin, hs, hx, hrun, Result.andThen]
    exact h v' w' (by rw [bys_append]; exact h1) ((Below.refl B w).grown h2 hB (fun k hk => (hown.lt k hk).1))
  · refine step_append_grows hg s x t ho e i0 (.int .u8 0) 1 1 U.slice hi hz0 hz1 hz2 rfl (by decide) p l.length l.length (bys l) hs (fun e => by rw [hp e]; exact ⟨rfl, rfl⟩) (by simp [bys]) ?_ ad 1 1 (bys [b]) hx rfl hnews (bys_one _) (by omega) (by unfold maxLen; omega) (by omega) ?_
    · intro ad' had j u hu
      by_cases h0 : l = []
      · subst h0; simp [bys] at hu
      · obtain ⟨b', o', e1, hc⟩ := hl h0
        have : some ad' = some (⟨b', o', none⟩ : Addr) := had.symm.trans e1
        obtain rfl := Option.some.inj this
        exact Lies.news hc j u hu
    · intro v' w' h1 h2
      refine h v' w' ?_ ?_
      · rw [bys_append]
        refine ⟨h1.1, ?_⟩
        rcases h1.2 with q | ⟨g, cap, cur, q1, q2, q3⟩
        · exact .inl q
        · exact .inr ⟨g, cap, cur, q1, Nat.le_trans hB q2, q3⟩
      · exact (Below.refl B w).grown h2 hB (by intro k hk; cases hk)
theorem Grows.later {w w' : World} {B : Nat} {ty : TypeId} {v : Value} {l : List UInt8} (h : Grows w B ty v l) (hb : Below w.heap.size w w') : Grows w' B ty v l := by
  rcases h with h | ⟨p, hv, hl, hp⟩
  · left
    refine ⟨h.1, ?_⟩
    rcases h.2 with q | ⟨g, cap, cur, q1, q2, q3, q4⟩
    · exact .inl q
    · exact .inr ⟨g, cap, cur, q1, q2, by rw [hb.block g (Array.getElem?_eq_some_iff.1 q3).1]; exact q3, q4⟩
  · exact .inr ⟨p, hv, hl.below hb, hp⟩

/-- 'out = append(out, s...)', s a string -/
theorem wpList_text (U : U8 P t e) {u : TypeId} (hu : P.underlying u = some .string) (w : World) (hg : o.guard = none) (sl x : Operand) (ho : o.op = .call { callee := .builtin .append, args := #[sl, x], argTypes := #[t, u] })
    (B n : Nat) (l : List UInt8) (v : Value) (hs : a.eval sl = v) (hown : w.ownsRow B e 1 v n (bys l)) (s : ByteArray) (hx : a.eval x = .string s) (hlen : n + s.size ≤ 140737488355328) (hB : B ≤ w.heap.size)
    (h : ∀ v' w', w'.ownsRow B e 1 v' (n + s.size) (bys (l ++ s.data.toList)) → Below B w w' → wpList P ops Q rest (a.put o.dst v') w') : wpList P ops Q (o :: rest) a w := by
  obtain ⟨i0, hi, hz0, hz1, hz2⟩ := info_parts U.info
  refine Lib.wpList_append_own_string w hg sl x t u ho B e i0 U.slice hu hi hz0 hz1 hz2 v n (bys l) hs hown s hx (by unfold maxLen; omega) hlen hB ?_
  intro v' w' h1 h2 _
  refine h v' w' (by rw [bys_append]; exact h1) ((Below.refl B w).grown h2 hB (fun k hk => (hown.lt k hk).1))
end
end Go.Proofs.YtijmijokgenflaaGreatDoor
