/- The statement DocsBack, proved for every input that its row reads: part 1 of 6. -/
import Derived.WalkKit
import Derived.WalkSpells
import Derived.WalkLawsBesides
import Derived.Laws.BytesArg
import Derived.Laws.AppendOwnNone
import Derived.ArgAppend
import Derived.Deep.RegionLawGrows
import Derived.Lib.Hide
import Derived.Lib.AppendStr
import Derived.OpenShut
import Derived.Deep.MidRow
import Derived.Deep.WholeRow
import Derived.Laws.StructEq
import Derived.Great.Walk
import Derived.BigFrame
import Derived.Lib.QuietBelow
import Derived.Test.YtjmglgcifekhgaaDoorProg
import Derived.Deep.QuietTactic
import Derived.BigQuiet
import Derived.RegionTactic
import Derived.Deep.RegionHeld3
import Derived.Deep.RegionLaw
import Derived.Deep.RegionWith
import Derived.StillTail
import Derived.Laws.OwnMore
import Derived.Shelf.SlicesE.Clone
import Derived.Deep.Upon
import Derived.Lib.Builder
import Derived.OrdersHeld
import Derived.Deep.RegionHeld
/- What a slice of bytes holds: 'Lies w p l': the bytes l lie at p (nil, or no byte: wherever). How it is carried, read as a string, and got out of what a call owns. No number of a program stands here. -/
namespace Go.Proofs.YtjmglgcifekhgaaDoor
open Go Go.RowKit

theorem thenBelow {a b c : World} (h : Below a.heap.size a b) (k : Below b.heap.size b c) : Below a.heap.size a c := h.trans (k.mono h.size)
/-- the numbers of bytes -/
def nums (l : List UInt8) : List Int := l.map fun b => (b.toNat : Int)
/-- the cells of bytes -/
def bys (l : List UInt8) : List Value := l.map fun b => Value.int .u8 (b.toNat : Int)

theorem nums_length (l : List UInt8) : (nums l).length = l.length := by simp [nums]
theorem bys_length (l : List UInt8) : (bys l).length = l.length := by simp [bys]
theorem bys_append (a b : List UInt8) : bys (a ++ b) = bys a ++ bys b := by simp [bys]
theorem bys_get (l : List UInt8) (i : Nat) (h : i < l.length) : (bys l)[i]? = some (.int .u8 ((l.getD i 0).toNat : Int)) := by
  simp [bys, List.getD, List.getElem?_eq_getElem h]
theorem bys_one (l : List UInt8) : ∀ u ∈ bys l, u.oneCell' = true := by
  intro u hu; obtain ⟨_, _, rfl⟩ := List.mem_map.1 hu; rfl
theorem nums_get (l : List UInt8) (i : Nat) (h : i < l.length) : (nums l).getD i 0 = ((l.getD i 0).toNat : Int) := by
  simp [nums, List.getD, List.getElem?_eq_getElem h]
theorem strOfNums_nums (l : List UInt8) : strOfNums (nums l) = ⟨l.toArray⟩ := by
  unfold strOfNums nums
  rw [List.map_map]
  congr 2
  conv => rhs; rw [← List.map_id l]
  apply List.map_congr_left
  intro b _
  simp

def Lies (w : World) (p : Option Addr) (l : List UInt8) : Prop :=
  l ≠ [] → ∃ b o, p = some ⟨b, o, none⟩ ∧ ∀ i, i < l.length → w.cell? ⟨b, o + i, none⟩ = some (.int .u8 ((l.getD i 0).toNat : Int))

theorem Lies.nil (w : World) (p : Option Addr) : Lies w p [] := fun h => absurd rfl h
theorem Lies.at {w : World} {p : Option Addr} {l : List UInt8} (h : Lies w p l) (h0 : 0 < l.length) :
    ∃ b o, p = some ⟨b, o, none⟩ ∧ b < w.heap.size ∧ ∀ i, i < l.length → w.cell? ⟨b, o + i, none⟩ = some (.int .u8 ((l.getD i 0).toNat : Int)) := by
  obtain ⟨b, o, rfl, hc⟩ := h (by intro e; subst e; simp at h0)
  exact ⟨b, o, rfl, World.block_lt_of_cell? w _ (hc 0 h0), hc⟩
theorem Lies.below {w w' : World} {p : Option Addr} {l : List UInt8} (h : Lies w p l) (hb : Below w.heap.size w w') : Lies w' p l := by
  intro h0
  obtain ⟨b, o, rfl, hc⟩ := h h0
  exact ⟨b, o, rfl, fun i hi => by
    have := hc i hi
    have hlt := World.block_lt_of_cell? w _ this
    rw [hb.cell (p := ⟨b, o + i, none⟩) hlt]; exact this⟩
theorem Lies.mono {w w' : World} {p : Option Addr} {l : List UInt8} {B : Nat} (h : Lies w p l) (hB : B = w.heap.size) (hb : Below B w w') : Lies w' p l := by subst hB; exact h.below hb
theorem Lies.alloc {w : World} {p : Option Addr} {l : List UInt8} (h : Lies w p l) (o : Obj) : Lies (w.alloc o) p l := h.below ((Below.refl _ _).alloc (Nat.le_refl _) o)
theorem Lies.drew {w : World} {p : Option Addr} {l : List UInt8} (h : Lies w p l) : Lies w.drew p l := h.below (Below.refl _ _).drew

/-- a part of what lies -/
theorem Lies.drop {w : World} {b o : Nat} {l : List UInt8} (hc : ∀ i, i < l.length → w.cell? ⟨b, o + i, none⟩ = some (.int .u8 ((l.getD i 0).toNat : Int))) (k m : Nat) (hk : k + m ≤ l.length) :
    Lies w (some ⟨b, o + k, none⟩) ((l.drop k).take m) := by
  intro _
  refine ⟨b, o + k, rfl, fun i hi => ?_⟩
  simp only [List.length_take, List.length_drop] at hi
  rw [Nat.add_assoc, hc (k + i) (by omega)]
  simp [List.getD, List.getElem?_drop, show i < m from by omega]

/-- what is behind the first k, wherever the walk says that it lies -/
theorem Lies.tail {w : World} {b o c k : Nat} {l : List UInt8} (hc : ∀ i, i < l.length → w.cell? ⟨b, o + i, none⟩ = some (.int .u8 ((l.getD i 0).toNat : Int))) (hk : k ≤ l.length) (hlc : l.length ≤ c) (pp : Option Addr) (h : ¬ c = k → pp = some ⟨b, o + k, none⟩) : Lies w pp (l.drop k) := by
  by_cases e : c = k
  · have : l.drop k = [] := List.drop_eq_nil_of_le (by omega)
    rw [this]; exact Lies.nil _ _
  · rw [h e]
    have := Lies.drop (w := w) hc k (l.length - k) (by omega)
    rwa [List.take_of_length_le (by simp)] at this

/-- 'string(b)' -/
theorem Lies.convert {P : Program} {w : World} {p : Option Addr} {l : List UInt8} (h : Lies w p l) (n : Nat) (hn : n = l.length) (c : Nat) (src e dst : TypeId)
    (hs : P.underlying src = some (.slice e)) (he : P.underlying e = some (.int .u8)) (hd : P.underlying dst = some .string) :
    (convert src dst (.slice p n c)).run P w = .ok (.string ⟨l.toArray⟩) w := by
  subst hn
  by_cases h0 : l = []
  · subst h0
    rw [List.length_nil, run_convert_bytes_string w src dst e _ 0 c hs he hd]
    cases p <;> simp [Conv.bytesToString, loadCells]
    all_goals rfl
  · obtain ⟨b, o, rfl, hc⟩ := h h0
    rw [run_convert_bytes_arg w src e hs he b o l.length c (nums l) (nums_length l) (fun i hi => by rw [hc i hi, nums_get l i hi]) dst hd, strOfNums_nums]

/-- what a call owns lies where it is -/
theorem own_lies {w : World} {B : Nat} {e : TypeId} {v : Value} {n : Nat} {l : List UInt8} (h : w.ownsRow B e 1 v n (bys l)) :
    n = l.length ∧ ∃ p cap, v = .slice p l.length cap ∧ l.length ≤ cap ∧ cap ≤ maxLen ∧ Lies w p l ∧ (p = none → l = [] ∧ cap = 0) := by
  have hlen : n = l.length := by have := h.1; simpa [bys_length] using this.symm
  subst hlen
  refine ⟨rfl, ?_⟩
  have h' := h
  rcases h.2 with ⟨rfl, hn⟩ | ⟨g, cap, cur, rfl, _, _, hnc, hcm, _, _⟩
  · have : l = [] := List.eq_nil_of_length_eq_zero hn
    subst this
    exact ⟨none, 0, rfl, Nat.le_refl _, Nat.zero_le _, Lies.nil _ _, fun _ => ⟨rfl, rfl⟩⟩
  · refine ⟨some ⟨g, 0, none⟩, cap, rfl, hnc, hcm, fun _ => ⟨g, 0, rfl, fun i hi => ?_⟩, fun e => by cases e⟩
    rw [Nat.zero_add, h'.cellAt i (by omega), bys_get l i hi]

/-- what a call that hands back bytes in memory (its own, or what was there) comes to -/
def RetBytes (w : World) (l : List UInt8) (e : Ending) (w' : World) : Prop :=
  ∃ p c, e = .returned (.slice p l.length c) ∧ l.length ≤ c ∧ c ≤ maxLen ∧ (p = none → l = [] ∧ c = 0) ∧ Lies w' p l ∧ Below w.heap.size w w'
theorem RetBytes.of_own {w w' : World} {B : Nat} {ty : TypeId} {v : Value} {n : Nat} {l : List UInt8} {e : Ending} (h : w'.ownsRow B ty 1 v n (bys l)) (he : e = .returned v) (hb : Below w.heap.size w w') : RetBytes w l e w' := by
  obtain ⟨rfl, p, c, rfl, h1, h2, h3, h4⟩ := own_lies h
  exact ⟨p, c, he, h1, h2, h4, h3, hb⟩

/-- what a call that hands back bytes of its own comes to -/
def RetOwn (w : World) (ty : TypeId) (l : List UInt8) (e : Ending) (w' : World) : Prop :=
  ∃ v, e = .returned v ∧ w'.ownsRow w.heap.size ty 1 v l.length (bys l) ∧ Below w.heap.size w w'
theorem RetOwn.bytes {w w' : World} {ty : TypeId} {l : List UInt8} {e : Ending} (h : RetOwn w ty l e w') : RetBytes w l e w' := by
  obtain ⟨v, he, ho, hb⟩ := h
  exact RetBytes.of_own ho he hb
theorem RetOwn.of_own {w w' : World} {ty : TypeId} {v : Value} {n : Nat} {l : List UInt8} {e : Ending} (h : w'.ownsRow w.heap.size ty 1 v n (bys l)) (he : e = .returned v) (hb : Below w.heap.size w w') : RetOwn w ty l e w' := by
  have := (own_lies h).1
  subst this
  exact ⟨v, he, h, hb⟩

/-- the same, from block B on -/
def RetGrow (w : World) (B : Nat) (ty : TypeId) (l : List UInt8) (e : Ending) (w' : World) : Prop :=
  ∃ v, e = .returned v ∧ w'.ownsRow B ty 1 v l.length (bys l) ∧ Below B w w'
theorem RetGrow.of_own {w w' : World} {B : Nat} {ty : TypeId} {v : Value} {n : Nat} {l : List UInt8} {e : Ending} (h : w'.ownsRow B ty 1 v n (bys l)) (he : e = .returned v) (hb : Below B w w') : RetGrow w B ty l e w' := by
  have := (own_lies h).1
  subst this
  exact ⟨v, he, h, hb⟩
theorem RetGrow.own {w w' : World} {ty : TypeId} {l : List UInt8} {e : Ending} (h : RetGrow w w.heap.size ty l e w') : RetOwn w ty l e w' := h

theorem own_mono {w : World} {B B' : Nat} {ty : TypeId} {n : Nat} {v : Value} {xs : List Value} (h : w.ownsRow B ty 1 v n xs) (hB : B' ≤ B) : w.ownsRow B' ty 1 v n xs := by
  refine ⟨h.1, ?_⟩
  rcases h.2 with q | ⟨g, cap, cur, q1, q2, q3⟩
  · exact .inl q
  · exact .inr ⟨g, cap, cur, q1, Nat.le_trans hB q2, q3⟩
theorem RetOwn.after {w w1 w2 : World} {ty : TypeId} {l : List UInt8} {e : Ending} (h : RetOwn w1 ty l e w2) (hb : Below w.heap.size w w1) : RetOwn w ty l e w2 := by
  obtain ⟨v, he, ho, hb2⟩ := h
  exact ⟨v, he, own_mono ho hb.size, thenBelow hb hb2⟩
theorem RetBytes.after {w w1 w2 : World} {l : List UInt8} {e : Ending} (h : RetBytes w1 l e w2) (hb : Below w.heap.size w w1) : RetBytes w l e w2 := by
  obtain ⟨p, c, he, h1, h2, h3, h4, hb2⟩ := h
  exact ⟨p, c, he, h1, h2, h3, h4, thenBelow hb hb2⟩

/-- a law's end: it answers true, and nothing that was there is other -/
def Yes (w : World) (e : Ending) (w' : World) : Prop := e = .returned (.bool true) ∧ Below w.heap.size w w'
theorem ret_bool {a b : Bool} (h : a = b) : Ending.returned (.bool a) = .returned (.bool b) := by rw [h]

theorem cell_alloc {w : World} {a : Addr} {u : Value} (o : Obj) (h : w.cell? a = some u) : (w.alloc o).cell? a = some u := by
  rw [((Below.refl w.heap.size w).alloc (Nat.le_refl _) o).cell (p := a) (World.block_lt_of_cell? w _ h)]; exact h

theorem own_some {w : World} {B : Nat} {ty : TypeId} {v : Value} {n : Nat} {l : List UInt8} (h : w.ownsRow B ty 1 v n (bys l)) (hn : 0 < n) : ∃ g cap, v = .slice (some ⟨g, 0, none⟩) n cap ∧ B ≤ g := by
  rcases h.2 with ⟨_, e⟩ | ⟨g, cap, cur, rfl, hb, _⟩
  · omega
  · exact ⟨g, cap, rfl, hb⟩
theorem bys_set (l : List UInt8) (i : Nat) (b : UInt8) : (bys l).set i (.int .u8 (b.toNat : Int)) = bys (l.set i b) := by simp [bys, List.map_set]
/-- a byte of the call's own read, and written -/
theorem own_cell {w : World} {B : Nat} {ty : TypeId} {g n cap : Nat} {l : List UInt8} (h : w.ownsRow B ty 1 (.slice (some ⟨g, 0, none⟩) n cap) n (bys l)) (i : Nat) (hi : i < l.length) :
    w.cell? ⟨g, i, none⟩ = some (.int .u8 ((l.getD i 0).toNat : Int)) ∧ w.frozen? ⟨g, i, none⟩ = false ∧
    ∀ b : UInt8, (w.setCell ⟨g, i, none⟩ (.int .u8 (b.toNat : Int))).ownsRow B ty 1 (.slice (some ⟨g, 0, none⟩) n cap) n (bys (l.set i b)) := by
  have hn := (own_lies h).1
  refine ⟨by rw [h.cellAt i (by omega), bys_get l i hi], h.frozenAt i, fun b => ?_⟩
  have := (h.stored i (.int .u8 (b.toNat : Int))).1
  rwa [bys_set] at this
/-- a byte's number -/
theorem byte_of {x : Int} (h : (Lit.int .u8 x).wf = true) : ∃ d : UInt8, x = (d.toNat : Int) := by
  have h0 : 0 ≤ x ∧ x < 256 := by simp [Lit.wf, IntKind.min, IntKind.max, IntKind.bits, IntKind.signed] at h; omega
  refine ⟨UInt8.ofNat x.toNat, ?_⟩
  rw [UInt8.toNat_ofNat']
  omega
/-- 'int(uint(a) % uint(n))' -/
theorem uidx (a : Int) (n : Nat) (hn : 0 < n) (hn2 : n ≤ 140737488355328) : ∃ i : Nat, i < n ∧ wrap64 ((IntKind.u64.wrap a).tmod (n : Int)) = (i : Int) ∧ (i : Int) = a % 18446744073709551616 % (n : Int) := by
  have hw : IntKind.u64.wrap a = a % 18446744073709551616 := by simp [IntKind.wrap, IntKind.bits, IntKind.signed]
  have h0 : 0 ≤ a % 18446744073709551616 := Int.emod_nonneg _ (by omega)
  have h1 := Int.emod_nonneg (a % 18446744073709551616) (show (n : Int) ≠ 0 by omega)
  have h2 := Int.emod_lt_of_pos (a % 18446744073709551616) (show (0 : Int) < n by omega)
  refine ⟨(a % 18446744073709551616 % (n : Int)).toNat, by omega, ?_, by omega⟩
  rw [hw, Int.tmod_eq_emod_of_nonneg h0, IntWalk.wrap64_in _ ⟨by omega, by omega⟩]
  omega

/-- the cells that are appended, as the laws on append ask for them -/
theorem Lies.news {w : World} {b o : Nat} {l : List UInt8} (hc : ∀ i, i < l.length → w.cell? ⟨b, o + i, none⟩ = some (.int .u8 ((l.getD i 0).toNat : Int))) :
    ∀ j u, (bys l)[j]? = some u → w.cell? ((⟨b, o, none⟩ : Addr).add j) = some u := by
  intro j u hu
  have hj : j < l.length := by
    have := (List.getElem?_eq_some_iff.1 hu).1
    simpa [bys_length] using this
  rw [bys_get l j hj] at hu
  obtain rfl := Option.some.inj hu
  rw [Addr.add_lit]
  exact hc j hj

/-- bytes that a constant lays -/
theorem lies_lit (w : World) (ty : TypeId) (m : Nat × Nat) (l : List UInt8) (cs : Array Value) (hcs : cs = (bys l).toArray) : Lies (w.alloc (.cells cs ty m)) (some ⟨w.heap.size, 0, none⟩) l := by
  intro _
  refine ⟨w.heap.size, 0, rfl, fun i hi => ?_⟩
  subst hcs
  rw [Nat.zero_add, cell_of_row (w.alloc _) w.heap.size i _ ty m (heap_alloc_new w _)]
  simpa using bys_get l i hi

/-- a type of slices of bytes -/
structure U8 (P : Program) (t e : TypeId) : Prop where
  slice : P.underlying t = some (.slice e)
  info : (P.info? e).map (fun i => (i.zero, i.size, i.bytes)) = some (some (.int .u8 0), 1, 1)

section
variable {P : Program} {t e : TypeId} {ops : Array Oper} {rest : List Oper} {o : Oper} {a : Act} {Q : Exit → Act → World → Prop}

/-- 'out = append(out, x)', out the call's own, x a byte -/
theorem wpList_byte (U : U8 P t e) (w : World) (hg : o.guard = none) (s x : Operand) (ho : o.op = .call { callee := .builtin .append, args := #[s, x], argTypes := #[t, t] })
    (B n : Nat) (l : List UInt8) (v : Value) (hs : a.eval s = v) (hown : w.ownsRow B e 1 v n (bys l)) (X : Int) (b : UInt8) (hx : a.eval x = .slice (some ⟨w.heap.size, 0, none⟩) 1 1) (hX : X = (b.toNat : Int))
    (hlen : n + 1 ≤ 140737488355328) (hB : B ≤ w.heap.size)
    (h : ∀ v' w', w'.ownsRow B e 1 v' (n + 1) (bys (l ++ [b])) → Below B w w' → wpList P ops Q rest (a.put o.dst v') w') : wpList P ops Q (o :: rest) a (w.alloc (.cells #[.int .u8 X] e)) := by
  obtain ⟨i0, hi, hz0, hz1, hz2⟩ := info_parts U.info
  refine wpList_append_own _ hg s x t ho B e i0 (.int .u8 0) 1 1 U.slice hi hz0 hz1 hz2 rfl (by decide) v n (bys l) hs (hown.alloc _) ⟨w.heap.size, 0, none⟩ 1 1 (bys [b]) hx rfl ?_ (bys_one _) (by unfold maxLen; omega) (by omega) (by simp; omega) ?_
  · intro j u hu
    match j, hu with
    | 0, hu => simp [bys] at hu; subst hu; subst hX; simp [Addr.add]
  · intro v' w' h1 h2 _
    refine h v' w' (by rw [bys_append]; exact h1) ?_
    exact ((Below.refl B w).alloc hB _).grown h2 (by simp; omega) (fun k hk => (hown.lt k hk).1)

/-- 'out = append(out, b...)', out the call's own, b bytes that lie somewhere (none of them: wherever) -/
theorem wpList_bytes (U : U8 P t e) (w : World) (hg : o.guard = none) (s x : Operand) (ho : o.op = .call { callee := .builtin .append, args := #[s, x], argTypes := #[t, t] })
    (B n : Nat) (l : List UInt8) (v : Value) (hs : a.eval s = v) (hown : w.ownsRow B e 1 v n (bys l)) (p : Option Addr) (m c : Nat) (l2 : List UInt8) (hx : a.eval x = .slice p m c) (hl : Lies w p l2) (hm : m = l2.length) (hp : p = none → m = 0 ∧ c = 0)
    (hlen : n + m ≤ 140737488355328) (hB : B ≤ w.heap.size)
    (h : ∀ v' w', w'.ownsRow B e 1 v' (n + m) (bys (l ++ l2)) → Below B w w' → wpList P ops Q rest (a.put o.dst v') w') : wpList P ops Q (o :: rest) a w := by
  obtain ⟨i0, hi, hz0, hz1, hz2⟩ := info_parts U.info
  cases p with
  | none =>
    obtain ⟨rfl, rfl⟩ := hp rfl
    obtain rfl : l2 = [] := List.eq_nil_of_length_eq_zero hm.symm
    exact wpList_append_own_none hg s x t ho B e i0 1 U.slice hi v n (bys l) hs hown hx (h v w (by simpa using hown) (Below.refl _ _))
  | some ad =>
    refine wpList_append_own _ hg s x t ho B e i0 (.int .u8 0) 1 1 U.slice hi hz0 hz1 hz2 rfl (by decide) v n (bys l) hs hown ad m c (bys l2) hx (by rw [bys_length]; omega) ?_ (bys_one _) (by unfold maxLen; omega) (by omega) hB ?_
    · by_cases h0 : l2 = []
      · subst h0; intro j u hu; simp [bys] at hu
      · obtain ⟨b, of, e1, hc⟩ := hl h0
        obtain rfl := Option.some.inj e1
        exact Lies.news hc
    · intro v' w' h1 h2 _
      refine h v' w' (by rw [bys_append]; exact h1) ?_
      exact (Below.refl B w).grown h2 hB (fun k hk => (hown.lt k hk).1)

/-- 'make([]byte, 0, n)' -/
theorem wpList_makeBytes (U : U8 P t e) (w : World) (hg : o.guard = none) (x y : Operand) (hop : o.op = Op.makeSlice t x y) (kl kc : IntKind) (C : Int) (n : Nat) (hl : a.eval x = .int kl 0) (hc : a.eval y = .int kc C) (hC : C = (n : Int))
    (hn : n ≤ 281474976710656) (h : ∀ v w', w'.ownsRow w.heap.size e 1 v 0 (bys []) → Below w.heap.size w w' → wpList P ops Q rest (a.put o.dst v) w') : wpList P ops Q (o :: rest) a w := by
  obtain ⟨i0, hi, hz0, hz1, hz2⟩ := info_parts U.info
  refine wpList_make_own w hg x y t hop w.heap.size e i0 (.int .u8 0) 1 U.slice hi hz0 hz1 kl kc C n hl hc hC (by rw [hz2]; omega) (by unfold maxLen; omega) (Nat.le_refl _) ?_
  intro w' h1 h2
  exact h _ w' h1 ((Below.refl _ _).grown h2 (Nat.le_refl _) (by intro k hk; cases hk))

/-- bytes that may be appended to: the call's own; or what came in, without room behind it -/
def Grows (w : World) (B : Nat) (ty : TypeId) (v : Value) (l : List UInt8) : Prop :=
  w.ownsRow B ty 1 v l.length (bys l) ∨ ∃ p, v = .slice p l.length l.length ∧ Lies w p l ∧ (p = none → l = [])
theorem Grows.below {w w' : World} {ty : TypeId} {B : Nat} {p : Option Addr} {l : List UInt8} (h : Lies w p l ∧ (p = none → l = [])) (hb : Below w.heap.size w w') : Grows w' B ty (.slice p l.length l.length) l :=
  .inr ⟨p, rfl, h.1.below hb, h.2⟩

theorem wpList_byteG (U : U8 P t e) (w : World) (hg : o.guard = none) (s x : Operand) (ho : o.op = .call { callee := .builtin .append, args := #[s, x], argTypes := #[t, t] })
    (B : Nat) (l : List UInt8) (v : Value) (hs : a.eval s = v) (hown : Grows w B e v l) (X : Int) (b : UInt8) (hx : a.eval x = .slice (some ⟨w.heap.size, 0, none⟩) 1 1) (hX : X = (b.toNat : Int))
    (hlen : l.length + 1 ≤ 140737488355328) (hB : B ≤ w.heap.size)
    (h : ∀ v' w', w'.ownsRow B e 1 v' (l.length + 1) (bys (l ++ [b])) → Below B w w' → wpList P ops Q rest (a.put o.dst v') w') : wpList P ops Q (o :: rest) a (w.alloc (.cells #[.int .u8 X] e)) := by
  rcases hown with hown | ⟨p, rfl, hl, hp⟩
  · exact wpList_byte U w hg s x ho B l.length l v hs hown X b hx hX hlen hB h
  · obtain ⟨i0, hi, hz0, hz1, hz2⟩ := info_parts U.info
    refine wpList_append_grows _ hg s x t ho e i0 (.int .u8 0) 1 1 U.slice hi hz0 hz1 hz2 rfl (by decide) p l.length l.length (bys l) hs (fun e => by rw [hp e]; exact ⟨rfl, rfl⟩) (by simp [bys]) ?_ ⟨w.heap.size, 0, none⟩ 1 1 (bys [b]) hx rfl ?_ (bys_one _) (by omega) (by unfold maxLen; omega) (by omega) ?_
    · intro ad had j u hu
      by_cases h0 : l = []
      · subst h0; simp [bys] at hu
      · obtain ⟨b', o', e1, hc⟩ := hl h0
        have : some ad = some (⟨b', o', none⟩ : Addr) := had.symm.trans e1
        obtain rfl := Option.some.inj this
        exact cell_alloc _ (Lies.news hc j u hu)
    · intro j u hu
      match j, hu with
      | 0, hu => simp [bys] at hu; subst hu; subst hX; simp [Addr.add]
    · intro v' w' h1 h2
      refine h v' w' ?_ ?_
      · rw [bys_append]
        refine ⟨h1.1, ?_⟩
        rcases h1.2 with q | ⟨g, cap, cur, q1, q2, q3⟩
        · exact .inl q
        · exact .inr ⟨g, cap, cur, q1, Nat.le_trans hB (Nat.le_trans (by simp) q2), q3⟩
      · exact ((Below.refl B w).alloc hB _).grown h2 (by simp; omega) (by intro k hk; cases hk)

/-- the same, as one step of a statement that leaves its order open -/
theorem step_byteG (U : U8 P t e) {w : World} {K : Act → World → Prop} {E : Prop} {Q : Exit → Act → World → Prop} (hg : o.guard = none) (s x : Operand) (ho : o.op = .call { callee := .builtin .append, args := #[s, x], argTypes := #[t, t] })
    (B : Nat) (l : List UInt8) (v : Value) (hs : a.eval s = v) (hown : Grows w B e v l) (ad : Addr) (b : UInt8) (hx : a.eval x = .slice (some ad) 1 1) (hX : w.cell? ad = some (.int .u8 (b.toNat : Int)))
    (hlen : l.length + 1 ≤ 140737488355328) (hB : B ≤ w.heap.size)
    (h : ∀ v' w', w'.ownsRow B e 1 v' (l.length + 1) (bys (l ++ [b])) → Below B w w' → K (a.put o.dst v') w') :
    if Region.wanted o (yielded ops a.tmps) = true then Oper.wp P o a w K Q else E := by
  obtain ⟨i0, hi, hz0, hz1, hz2⟩ := info_parts U.info
  have hnews : ∀ j u, (bys [b])[j]? = some u → w.cell? (ad.add j) = some u := by
    intro j u hu
    match j, hu with
    | 0, hu => simp [bys] at hu; subst hu; rw [show ad.add 0 = ad from by cases ad; simp [Addr.add]]; exact hX
  rcases hown with hown | ⟨p, rfl, hl, hp⟩
  · have hw : Region.wanted o (yielded ops a.tmps) = true := by simp [Region.wanted, hg]
    rw [if_pos hw]
    obtain ⟨v', w', hrun, h1, h2, _⟩ := run_append_own (P := P) w B t o.type e i0 (.int .u8 0) 1 1 U.slice hi hz0 hz1 hz2 rfl (by decide) v l.length (bys l) hown ad 1 1 (bys [b]) rfl hnews (bys_one _) (by unfold maxLen; omega) (by omega) hB
    unfold Oper.wp
    simp [execOp, ho, resolve, invoke, builtin, hs, hx, hrun, Result.andThen]
    exact h v' w' (by rw [bys_append]; exact h1) ((Below.refl B w).grown h2 hB (fun k hk => (hown.lt k hk).1))
  · refine step_append_grows hg s x t ho e i0 (.int .u8 0) 1 1 U.slice hi hz0 hz1 hz2 rfl (by decide) p l.length l.length (bys l) hs (fun e => by rw [hp e]; exact ⟨rfl, rfl⟩) (by simp [bys]) ?_ ad 1 1 (bys [b]) hx rfl hnews (bys_one _) (by omega) (by unfold maxLen; omega) (by omega) ?_
    · intro ad' had j u hu
      by_cases h0 : l = []
      · subst h0; simp [bys] at hu
      · obtain ⟨b', o', e1, hc⟩ := hl h0
        have : some ad' = some (⟨b', o', none⟩ : Addr) := had.symm.trans e1
        obtain rfl := Option.some.inj this
        exact Lies.news hc j u hu
    · intro v' w' h1 h2
      refine h v' w' ?_ ?_
      · rw [bys_append]
        refine ⟨h1.1, ?_⟩
        rcases h1.2 with q | ⟨g, cap, cur, q1, q2, q3⟩
        · exact .inl q
        · exact .inr ⟨g, cap, cur, q1, Nat.le_trans hB q2, q3⟩
      · exact (Below.refl B w).grown h2 hB (by intro k hk; cases hk)
theorem Grows.later {w w' : World} {B : Nat} {ty : TypeId} {v : Value} {l : List UInt8} (h : Grows w B ty v l) (hb : Below w.heap.size w w') : Grows w' B ty v l := by
  rcases h with h | ⟨p, hv, hl, hp⟩
  · left
    refine ⟨h.1, ?_⟩
    rcases h.2 with q | ⟨g, cap, cur, q1, q2, q3, q4⟩
    · exact .inl q
    · exact .inr ⟨g, cap, cur, q1, q2, by rw [hb.block g (Array.getElem?_eq_some_iff.1 q3).1]; exact q3, q4⟩
  · exact .inr ⟨p, hv, hl.below hb, hp⟩

/-- 'out = append(out, s...)', s a string -/
theorem wpList_text (U : U8 P t e) {u : TypeId} (hu : P.underlying u = some .string) (w : World) (hg : o.guard = none) (sl x : Operand) (ho : o.op = .call { callee := .builtin .append, args := #[sl, x], argTypes := #[t, u] })
    (B n : Nat) (l : List UInt8) (v : Value) (hs : a.eval sl = v) (hown : w.ownsRow B e 1 v n (bys l)) (s : ByteArray) (hx : a.eval x = .string s) (hlen : n + s.size ≤ 140737488355328) (hB : B ≤ w.heap.size)
    (h : ∀ v' w', w'.ownsRow B e 1 v' (n + s.size) (bys (l ++ s.data.toList)) → Below B w w' → wpList P ops Q rest (a.put o.dst v') w') : wpList P ops Q (o :: rest) a w := by
  obtain ⟨i0, hi, hz0, hz1, hz2⟩ := info_parts U.info
  refine Lib.wpList_append_own_string w hg sl x t u ho B e i0 U.slice hu hi hz0 hz1 hz2 v n (bys l) hs hown s hx (by unfold maxLen; omega) hlen hB ?_
  intro v' w' h1 h2 _
  refine h v' w' (by rw [bys_append]; exact h1) ((Below.refl B w).grown h2 hB (fun k hk => (hown.lt k hk).1))
end
end Go.Proofs.YtjmglgcifekhgaaDoor
/- Rows of 64 numbers by value: what is at a place, whether two are the same. No number of a program stands here. -/
namespace Go.Proofs.YtjmglgcifekhgaaDoor
open Go Go.RowKit
set_option linter.unusedVariables false

/-- the cells of a row of 64 numbers -/
def vf (f : Nat → Int) : Array Value := ((List.range 64).map fun i => Value.int .i64 (f i)).toArray
theorem vf_size (f : Nat → Int) : (vf f).size = 64 := by simp [vf]
theorem vf_get (f : Nat → Int) (i : Nat) (h : i < 64) : (vf f)[i]? = some (.int .i64 (f i)) := by simp [vf, h]
theorem vf_none (f : Nat → Int) (i : Nat) (h : 64 ≤ i) : (vf f)[i]? = none := by simp [vf, h]
theorem vf_congr {f g : Nat → Int} (h : ∀ i, i < 64 → f i = g i) : vf f = vf g := by
  unfold vf
  congr 1
  apply List.map_congr_left
  intro i hi
  rw [h i (List.mem_range.1 hi)]
theorem vf_one (f : Nat → Int) : (vf f).all (·.oneCell') = true := by
  rw [Array.all_eq_true_iff_forall_mem]
  intro v hv
  simp [vf] at hv
  obtain ⟨i, _, rfl⟩ := hv
  rfl
/-- one place turned -/
def vset (f : Nat → Int) (k : Nat) (x : Int) : Nat → Int := fun i => if i = k then x else f i
theorem vf_set (f : Nat → Int) (k : Nat) (x : Int) : (vf f).setIfInBounds k (.int .i64 x) = vf (vset f k x) := by
  apply Array.ext_getElem?
  intro i
  rw [Array.getElem?_setIfInBounds]
  by_cases h : k = i
  · subst h
    by_cases hk : k < 64
    · rw [if_pos rfl, if_pos (by rw [vf_size]; exact hk), vf_get _ _ hk]; simp [vset]
    · simp [vf_size, hk, vf_none _ _ (by omega : 64 ≤ k)]
  · rw [if_neg h]
    by_cases hi : i < 64
    · rw [vf_get _ _ hi, vf_get _ _ hi]; simp [vset, show i ≠ k from fun e => h e.symm]
    · rw [vf_none _ _ (by omega), vf_none _ _ (by omega)]

/-- a type of rows of 64 ints -/
structure Vec (P : Program) (t e : TypeId) : Prop where
  array : P.underlying t = some (.array 64 e)
  elem : P.underlying e = some (.int .i64)
  info : (P.info? e).map (·.size) = some 1
  whole : (P.info? t).map (·.size) = some 64

section
variable {P : Program} {t e : TypeId}

theorem Vec.sizeOf (V : Vec P t e) (w : World) : (Go.sizeOf e).run P w = .ok 1 w := by
  cases h : P.info? e with
  | none => have := V.info; simp [h] at this
  | some i => have := V.info; simp [h] at this; simp [Go.sizeOf, typeInfo, h, this]
theorem Vec.isAgg (V : Vec P t e) (w : World) : (Go.isAgg e).run P w = .ok false w := by
  unfold Go.isAgg
  rw [Sem.run_bind, run_underlying V.elem w]
  rfl
theorem Vec.part (V : Vec P t e) (cs : Array Value) (i : Nat) (v : Value) (h : cs[i]? = some v) (w : World) : (Go.part e cs i).run P w = .ok v w := by
  unfold Go.part
  rw [Sem.run_bind, V.isAgg w]
  simp [Result.andThen, h]
/-- 'a[i]' -/
theorem Vec.index (V : Vec P t e) (f : Nat → Int) (k : IntKind) (x : Int) (i : Nat) (hx : x = i) (hi : i < 64) (w : World) : (Instr.index t (.agg (vf f)) (.int k x)).run P w = .ok (.int .i64 (f i)) w := by
  subst hx
  have hlt : (0 : Int) ≤ (i : Int) ∧ (i : Int) < ((64 : Nat) : Int) := by omega
  simp only [Instr.index, asIntOf, Sem.run_bind, Sem.run_pure, Result.andThen_ok, run_underlying V.array w, hlt, and_self, if_true, V.sizeOf w, Nat.mul_one, Int.toNat_natCast]
  exact V.part (vf f) i _ (vf_get f i hi) w
/-- are two the same at all places of a list? -/
def vsame (f g : Nat → Int) : List Nat → Bool
  | [] => true
  | i :: l => (f i == g i) && vsame f g l
theorem vsame_all (f g : Nat → Int) (l : List Nat) : vsame f g l = true ↔ ∀ i, i ∈ l → f i = g i := by
  induction l with
  | nil => simp [vsame]
  | cons i l ih => simp [vsame, ih]
/-- are two the same? -/
def veq (f g : Nat → Int) : Bool := vsame f g (List.range 64)
theorem veq_iff (f g : Nat → Int) : veq f g = true ↔ ∀ i, i < 64 → f i = g i := by
  unfold veq
  rw [vsame_all]
  simp
theorem veq_of {f g : Nat → Int} (h : ∀ i, i < 64 → f i = g i) : veq f g = true := (veq_iff f g).2 h
theorem veq_no {f g : Nat → Int} (i : Nat) (hi : i < 64) (h : f i ≠ g i) : veq f g = false := by
  cases e : veq f g with
  | false => rfl
  | true => exact absurd ((veq_iff f g).1 e i hi) h
theorem veq_self (f : Nat → Int) : veq f f = true := veq_of fun _ _ => rfl
theorem veq_vf {f g : Nat → Int} (h : veq f g = true) : vf f = vf g := vf_congr ((veq_iff f g).1 h)

theorem Vec.equalIn (V : Vec P t e) (d : Nat) (f g : Nat → Int) (w : World) : (Op.equalIn (d + 2) t (.agg (vf f)) (.agg (vf g))).run P w = .ok (veq f g) w := by
  have key : ∀ l : List Nat, (∀ i, i ∈ l → i < 64) → ∀ w : World,
      (forIn l ((none, ()) : Option Bool × Unit) (fun i _ => do
        let a ← Go.part e (vf f) (i * 1)
        let b ← Go.part e (vf g) (i * 1)
        let r ← Op.equalIn (d + 1) e a b
        if (!r) = true then pure (ForInStep.done (some false, ())) else pure (ForInStep.yield (none, ()))) : Sem (Option Bool × Unit)).run P w = .ok (if vsame f g l then (none, ()) else (some false, ())) w := by
    intro l
    induction l with
    | nil => intro _ w; simp [vsame]
    | cons i l ih =>
      intro h w
      have hi := h i (by simp)
      simp only [List.forIn_cons, Sem.run_bind, Nat.mul_one, V.part (vf f) i _ (vf_get f i hi) w, V.part (vf g) i _ (vf_get g i hi) w, Result.andThen_ok, run_equalIn_int w d e .i64 .i64 (f i) (g i) V.elem]
      by_cases hq : f i = g i
      · have := ih (fun j hj => h j (by simp [hj])) w
        simp only [Nat.mul_one] at this
        simp only [hq, beq_self_eq_true, Bool.not_true, Bool.false_eq_true, if_false, Sem.run_pure, Result.andThen_ok, vsame, Bool.true_and]
        exact this
      · simp [hq, vsame]
  have hk := key (List.range 64) (fun i hi => List.mem_range.1 hi) w
  unfold Op.equalIn
  simp only [Sem.run_bind, run_underlying V.array w, Result.andThen_ok, V.sizeOf w]
  rw [List.range_eq_range'] at hk
  simp only [Std.Legacy.Range.forIn_eq_forIn_range', Std.Legacy.Range.size, Nat.sub_zero, Nat.add_one_sub_one, Nat.div_one, hk, Result.andThen_ok]
  unfold veq
  rw [List.range_eq_range']
  cases vsame f g (List.range' 0 64) <;> simp
theorem Vec.eql (V : Vec P t e) (f g : Nat → Int) (w : World) : (binOp .eql t (.agg (vf f)) (.agg (vf g))).run P w = .ok (.bool (veq f g)) w := by
  rw [run_eql_struct, V.equalIn 9998 f g w]; rfl
theorem Vec.neq (V : Vec P t e) (f g : Nat → Int) (w : World) : (binOp .neq t (.agg (vf f)) (.agg (vf g))).run P w = .ok (.bool (!veq f g)) w := by
  rw [run_neq_struct, V.equalIn 9998 f g w]; rfl
/-- the row of noughts -/
theorem vf_zero : vf (fun _ => 0) = Array.replicate 64 (.int .i64 0) := by
  apply Array.ext_getElem?
  intro i
  by_cases h : i < 64
  · rw [vf_get _ _ h]; simp [h]
  · rw [vf_none _ _ (by omega)]; simp [h]
end
end Go.Proofs.YtjmglgcifekhgaaDoor
/- Rows of 64 numbers in memory: a block of one, made, read, written whole or at a place, as a walk meets it. No number of a program stands here. -/
namespace Go.Proofs.YtjmglgcifekhgaaDoor
open Go Go.RowKit
set_option linter.unusedVariables false

/-- block g is a row of 64 -/
def Row (w : World) (g : Nat) (t : TypeId) (f : Nat → Int) : Prop := w.heap[g]? = some (.cells (vf f) t (0, 0))
theorem Row.lt {w : World} {g : Nat} {t : TypeId} {f : Nat → Int} (h : Row w g t f) : g < w.heap.size := (Array.getElem?_eq_some_iff.1 h).1
theorem Row.cell {w : World} {g : Nat} {t : TypeId} {f : Nat → Int} (h : Row w g t f) (k : Nat) (hk : k < 64) : w.cell? ⟨g, k, none⟩ = some (.int .i64 (f k)) := by
  rw [cell_of_row w g k _ _ _ h, vf_get f k hk]
theorem Row.free {w : World} {g : Nat} {t : TypeId} {f : Nat → Int} (h : Row w g t f) (k : Nat) : w.frozen? ⟨g, k, none⟩ = false := by simp [World.frozen?, show w.heap[g]? = _ from h]
theorem Row.below {w w' : World} {g B : Nat} {t : TypeId} {f : Nat → Int} (h : Row w g t f) (hb : Below B w w') (hB : g < B) : Row w' g t f := (hb.block g hB).trans h
theorem Row.later {w w' : World} {g : Nat} {t : TypeId} {f : Nat → Int} (h : Row w g t f) (hb : Below w.heap.size w w') : Row w' g t f := h.below hb h.lt
theorem Row.kept {w w' : World} {g : Nat} {t : TypeId} {f : Nat → Int} (h : Row w g t f) {row : Option Nat} (hg : w.grownBy w' row) (hne : some g ≠ row) : Row w' g t f := (hg.block g h.lt hne).trans h
theorem Row.congr {w : World} {g : Nat} {t : TypeId} {f f' : Nat → Int} (h : Row w g t f) (he : ∀ i, i < 64 → f i = f' i) : Row w g t f' := by
  unfold Row at h ⊢; rw [h, vf_congr he]
theorem block_setCell {w : World} {G j : Nat} {cs : Array Value} {ty : TypeId} {m : Nat × Nat} (h : w.heap[G]? = some (.cells cs ty m)) (v : Value) : (w.setCell ⟨G, j, none⟩ v).heap[G]? = some (.cells (cs.setIfInBounds j v) ty m) := by
  have hlt := (Array.getElem?_eq_some_iff.1 h).1
  have h' : w.heap[G] = .cells cs ty m := by simpa [Array.getElem?_eq_getElem hlt] using h
  show (w.heap.modify G _)[G]? = _
  rw [Array.getElem?_eq_getElem (by simpa using hlt), Array.getElem_modify_self, h']
  rfl
theorem grown_cell (w : World) (G j : Nat) (v : Value) : w.grownBy (w.setCell ⟨G, j, none⟩ v) (some G) :=
  ⟨rfl, rfl, rfl, by simp [World.setCell], fun i hi hne => Below.heap_setCell w ⟨G, j, none⟩ v i (fun e => hne (by rw [e]))⟩
theorem Row.set {w : World} {g : Nat} {t : TypeId} {f : Nat → Int} (h : Row w g t f) (k : Nat) (x : Int) : Row (w.setCell ⟨g, k, none⟩ (.int .i64 x)) g t (vset f k x) := by
  unfold Row
  rw [block_setCell h, vf_set]
theorem grown_row {w : World} {g : Nat} {t : TypeId} {f : Nat → Int} (h : Row w g t f) (f' : Nat → Int) : w.grownBy (w.setRow g (vf f')) (some g) ∧ Row (w.setRow g (vf f')) g t f' := by
  refine ⟨⟨rfl, rfl, rfl, by simp [World.setRow], fun i hi hne => ?_⟩, ?_⟩
  · show (w.heap.modify g _)[i]? = _
    rw [Array.getElem?_modify, if_neg (fun e => hne (by rw [e]))]
  · show (w.heap.modify g _)[g]? = _
    rw [Array.getElem?_modify, if_pos rfl, show w.heap[g]? = _ from h]
    rfl
theorem grown_below {w w' : World} {g B : Nat} (hg : w.grownBy w' (some g)) (hB : B ≤ w.heap.size) (hle : B ≤ g) : Below B w w' :=
  (Below.refl B w).grown hg hB (fun k hk => by have := Option.some.inj hk; omega)

theorem range_below {w w' : World} {b o : Nat} {cs : List Value} (h : w.rangeAt b o cs) (hb : Below w.heap.size w w') : w'.rangeAt b o cs := fun j v hv => by
  have h1 := h j v hv
  rw [hb.cell (p := ⟨b, o + j, none⟩) (World.block_lt_of_cell? w _ h1)]; exact h1
theorem Row.range {w : World} {g : Nat} {t : TypeId} {f : Nat → Int} (h : Row w g t f) : w.rangeAt g 0 (vf f).toList := fun j v hv => by
  rw [cell_of_row w g (0 + j) _ _ _ h, Nat.zero_add]; simpa using hv

section
variable {P : Program} {t e : TypeId} {ops : Array Oper} {rest : List Oper} {o : Oper} {a : Act} {w : World} {Q : Exit → Act → World → Prop}
theorem below_alloc (w : World) (o : Obj) : Below w.heap.size w (w.alloc o) := (Below.refl _ _).alloc (Nat.le_refl _) o
/-- a row laid into a block of its own -/
theorem wpList_vbox (V : Vec P t e) (hg : o.guard = none) (x : Operand) (ho : o.op = .box t x) (f : Nat → Int) (hx : a.eval x = .agg (vf f))
    (h : ∀ g w', w.heap.size ≤ g → Row w' g t f → Below w.heap.size w w' → wpList P ops Q rest (a.put o.dst (.pointer (some ⟨g, 0, none⟩))) w') : wpList P ops Q (o :: rest) a w := by
  refine Great.wpList_runTo hg o.dst rfl (.pointer (some ⟨w.heap.size, 0, none⟩)) (w.alloc (.cells (vf f) t)) ?_ (h _ _ (Nat.le_refl _) (heap_alloc_new w _) (below_alloc w _))
  unfold execOp
  simp only [ho, hx]
  rfl
theorem wpList_valloc (V : Vec P t e) (hz : ∀ w, (zeroValue t).run P w = .ok (.agg (vf fun _ => 0)) w) (hg : o.guard = none) (ho : o.op = .alloc t)
    (h : ∀ g w', w.heap.size ≤ g → Row w' g t (fun _ => 0) → Below w.heap.size w w' → wpList P ops Q rest (a.put o.dst (.pointer (some ⟨g, 0, none⟩))) w') : wpList P ops Q (o :: rest) a w := by
  refine Great.wpList_runTo hg o.dst rfl (.pointer (some ⟨w.heap.size, 0, none⟩)) (w.alloc (.cells (vf fun _ => 0) t)) ?_ (h _ _ (Nat.le_refl _) (heap_alloc_new w _) (below_alloc w _))
  unfold execOp
  simp only [ho, Instr.alloc, Sem.run_bind, hz, Result.andThen_ok]
  rfl
theorem Vec.loadVar (V : Vec P t e) {g : Nat} {ty : TypeId} {f : Nat → Int} {W : World} (hr : Row W g ty f) : (Go.loadVar t ⟨g, 0, none⟩).run P W = .ok (.agg (vf f)) W :=
  run_loadVar_row W g ty t (vf f) (0, 0) _ hr V.array rfl (by rw [vf_size]; exact V.whole)
theorem Vec.loadAt (V : Vec P t e) {g : Nat} {ty : TypeId} {f : Nat → Int} {W : World} (hr : Row W g ty f) : (Instr.loadAt t (.pointer (some ⟨g, 0, none⟩))).run P W = .ok (.agg (vf f)) W := by
  simp only [Instr.loadAt, Instr.sureAddr, Sem.run_bind, Sem.run_pure, Result.andThen_ok, V.loadVar hr]
/-- the worlds of a quiet region -/
theorem Row.quiet {W W' : World} {g : Nat} {ty : TypeId} {f : Nat → Int} (hr : Row W g ty f) (h : ∃ p : Regrown, W' = Sort.grow (redrawn W p.d) p.os) : Row W' g ty f := by
  obtain ⟨p, rfl⟩ := h
  exact hr.later (below_regrown W p.d p.os)
theorem wpQuiet_val {C : World → Prop} {R : Act → Prop} {v : Value} (hg : o.guard = none) (h : ∀ w, C w → (execOp a.eval o).run P w = .ok (.value v) w) (hk : wpQuiet P ops C R rest (a.put o.dst v)) : wpQuiet P ops C R (o :: rest) a := by
  refine wpQuiet_step fun K hK => ?_
  rw [if_pos (by simp [Region.wanted, hg])]
  exact ⟨v, fun w hw => by unfold Oper.quietAt; rw [h w hw]; exact ⟨rfl, rfl⟩, hK _ hk⟩
theorem wpQuiet_vload {C : World → Prop} {R : Act → Prop} (V : Vec P t e) (hg : o.guard = none) (x : Operand) (ho : o.op = .load t x) (g : Nat) (hx : a.eval x = .pointer (some ⟨g, 0, none⟩)) (ty : TypeId) (f : Nat → Int) (hr : ∀ w, C w → Row w g ty f)
    (hk : wpQuiet P ops C R rest (a.put o.dst (.agg (vf f)))) : wpQuiet P ops C R (o :: rest) a := by
  refine wpQuiet_val hg (fun w hw => ?_) hk
  unfold execOp
  simp only [ho, hx, Sem.run_bind, V.loadAt (hr w hw), Result.andThen_ok]
  rfl
/-- a callee's contract met in a quiet region -/
theorem quiet_call {f : FuncId} {args : Array Value} {v : Value} (h : ∀ W, Calls P f args W fun e w' => e = .returned v ∧ Below W.heap.size W w') (d : Nat) (os : Array Obj) :
    Calls P f args (Sort.grow (redrawn w d) os) fun e w'' => e = .returned v ∧ ∃ p : Regrown, w'' = Sort.grow (redrawn w p.d) p.os := Calls.regrown_of (h _)
/-- a row read whole -/
theorem wpList_vload (V : Vec P t e) (hg : o.guard = none) (x : Operand) (ho : o.op = .load t x) (g : Nat) (hx : a.eval x = .pointer (some ⟨g, 0, none⟩)) (ty : TypeId) (f : Nat → Int) (hr : Row w g ty f)
    (h : wpList P ops Q rest (a.put o.dst (.agg (vf f))) w) : wpList P ops Q (o :: rest) a w :=
  wpList_load_row hg t x ho g hx ty (vf f) (0, 0) _ hr V.array rfl (by rw [vf_size]; exact V.whole) h
/-- a row written whole -/
theorem wpList_vstore (V : Vec P t e) (hg : o.guard = none) (x y : Operand) (ho : o.op = .store t x y) (g : Nat) (hx : a.eval x = .pointer (some ⟨g, 0, none⟩)) (f : Nat → Int) (hy : a.eval y = .agg (vf f)) (ty : TypeId) (f0 : Nat → Int) (hr : Row w g ty f0)
    (h : ∀ w', Row w' g ty f → w.grownBy w' (some g) → w'.heap.size = w.heap.size → wpList P ops Q rest (a.put o.dst undef) w') : wpList P ops Q (o :: rest) a w :=
  wpList_store_row hg t x y ho g (vf f) hx hy ty (vf f0) hr (by rw [vf_size]; exact V.whole) (by rw [vf_size, vf_size]) (vf_one f)
    (h _ (grown_row hr f).2 (grown_row hr f).1 (by simp [World.setRow]))
/-- a row built of parts, guarded or not -/
theorem wpList_vbuild (hw : Region.wanted o (yielded ops a.tmps) = true) (parts : Array (Nat × Operand)) (ho : o.op = .build t parts) (f : Nat → Int) (hb : (Instr.build t (parts.map fun (i, x) => (i, a.eval x))).run P w = .ok (.agg (vf f)) w)
    (h : wpList P ops Q rest (a.put o.dst (.agg (vf f))) w) : wpList P ops Q (o :: rest) a w := by
  refine BigFrame.wpList_want hw fun K hK => ?_
  unfold Oper.wp execOp
  simp only [ho, Sem.run_bind, hb, Result.andThen_ok]
  exact hK _ _ h
/-- a row read whole, guarded or not -/
theorem wpList_vloadG (V : Vec P t e) (hw : Region.wanted o (yielded ops a.tmps) = true) (x : Operand) (ho : o.op = .load t x) (g : Nat) (hx : a.eval x = .pointer (some ⟨g, 0, none⟩)) (ty : TypeId) (f : Nat → Int) (hr : Row w g ty f)
    (h : wpList P ops Q rest (a.put o.dst (.agg (vf f))) w) : wpList P ops Q (o :: rest) a w := by
  refine BigFrame.wpList_want hw fun K hK => ?_
  unfold Oper.wp execOp
  simp only [ho, hx, Sem.run_bind, V.loadAt hr, Result.andThen_ok]
  exact hK _ _ h
end
end Go.Proofs.YtjmglgcifekhgaaDoor
/- Join, Meet of rows of 64, the program's and the document's. -/
namespace Go.Proofs.YtjmglgcifekhgaaDoor
open Go Go.RowKit
set_option linter.unusedVariables false

theorem vecI : Vec Tryd.prog 23 3 := ⟨Tryd.underlying23, Tryd.underlying3, by kernel_rfl, by kernel_rfl⟩
theorem zeroV (w : World) : (zeroValue 23).run Tryd.prog w = .ok (.agg (vf fun _ => 0)) w := by
  rw [vf_zero]; kernel_rfl
/-- what a call that hands back a row of 64 comes to -/
def RetVec (w : World) (f : Nat → Int) (e : Ending) (w' : World) : Prop := e = .returned (.agg (vf f)) ∧ Below w.heap.size w w'
theorem vec_ret {P : Program} {t e : TypeId} (V : Vec P t e) {fn : Func} {p : Tmp} (h : fn.results = #[.cell p t]) {a : Act} {w0 w : World} {g : Nat} {ty : TypeId} {f f' : Nat → Int} (hp : a.tmps.getD p undef = .pointer (some ⟨g, 0, none⟩)) (hd : a.defers = []) (hr : Row w g ty f)
    (he : ∀ i, i < 64 → f i = f' i) (hb : Below w0.heap.size w0 w) : bodyPost P fn (RetVec w0 f') .ret a w :=
  bodyPost_ret (v := .agg (vf f)) (results_cell_row h a.tmps w g ty (vf f) (0, 0) _ hp hr V.array rfl (by rw [vf_size]; exact V.whole)) hd ⟨by rw [vf_congr he], hb⟩
theorem grown_drew {w w' : World} {r : Option Nat} (h : w.grownBy w' r) : w.grownBy w'.drew r := ⟨h.os, h.tape, h.output, h.size, h.block⟩
/-- a row of which the first k places are of one, the others of another one -/
def upto (k : Nat) (f g : Nat → Int) : Nat → Int := fun i => if i < k then f i else g i
theorem upto_zero (f g : Nat → Int) : upto 0 f g = g := by funext i; simp [upto]
theorem upto_at (k : Nat) (f g : Nat → Int) : upto k f g k = g k := by simp [upto]
theorem upto_all (f g : Nat → Int) (i : Nat) (h : i < 64) : upto 64 f g i = f i := by simp [upto, h]
theorem upto_set (k : Nat) (f g : Nat → Int) : vset (upto k f g) k (f k) = upto (k + 1) f g := by
  funext i
  simp only [vset, upto]
  by_cases h : i = k
  · subst h; simp
  · rw [if_neg h]
    by_cases h2 : i < k
    · rw [if_pos h2, if_pos (by omega)]
    · rw [if_neg h2, if_neg (by omega)]
theorem upto_keep (k : Nat) (f g : Nat → Int) (h : f k = g k) : upto k f g = upto (k + 1) f g := by
  funext i
  simp only [upto]
  by_cases e : i = k
  · subst e; simp [h]
  · by_cases h2 : i < k
    · rw [if_pos h2, if_pos (by omega)]
    · rw [if_neg h2, if_neg (by omega)]

end Go.Proofs.YtjmglgcifekhgaaDoor
/- Within of rows of 64, of both. -/
namespace Go.Proofs.YtjmglgcifekhgaaDoor
open Go Go.RowKit

/-- what a call that hands back a bool, and turns nothing that was, comes to -/
def RetBool (w : World) (b : Bool) (e : Ending) (w' : World) : Prop := e = .returned (.bool b) ∧ Below w.heap.size w w'
/-- is each number of one at most that of another one at all places of a list? -/
def vle (f g : Nat → Int) : Bool := (List.range 64).all fun i => f i ≤ g i
theorem vle_iff (f g : Nat → Int) : vle f g = true ↔ ∀ i, i < 64 → f i ≤ g i := by simp [vle]
theorem vle_no {f g : Nat → Int} (i : Nat) (hi : i < 64) (h : g i < f i) : vle f g = false := by
  cases e : vle f g with
  | false => rfl
  | true => exact absurd ((vle_iff f g).1 e i hi) (by omega)
theorem vle_eq (f g : Nat → Int) : veq (fun i => max (f i) (g i)) g = vle f g := by
  rw [Bool.eq_iff_iff, veq_iff, vle_iff]
  exact ⟨fun h i hi => by have := h i hi; omega, fun h i hi => by have := h i hi; omega⟩

end Go.Proofs.YtjmglgcifekhgaaDoor
/- A region that leaves its order open: its first operations only read, or are calls that make memory; the last ones stand in one order and may write. Walked once, in the order of the text, over a class of worlds. On the library's lemmas of StillTail and Quiet. No number of a program stands here. -/
namespace Go.Proofs.YtjmglgcifekhgaaDoor
open Go Go.RowKit
set_option linter.unusedVariables false

section
variable {P : Program} {ops : Array Oper} {md : Region.Mode} {C : World → Prop} {n : Nat}

/-- whichever of the first n comes up next, it is quiet; then L -/
def Ahead (P : Program) (md : Region.Mode) (ops : Array Oper) (C : World → Prop) (n : Nat) (L : Array Bool → Act → Prop) : Nat → Array Bool → Act → Prop
  | 0, seen, a => L seen a
  | k + 1, seen, a => ¬ Region.ready md ops seen = [] ∧ ∀ i, i ∈ Region.ready md ops seen → i < n ∧ qOp P ops C i (Ahead P md ops C n L k (seen.setIfInBounds i true)) a

theorem Ahead.any {m : Nat} {L : Array Bool → Act → Prop} {Q : Exit → Act → World → Prop} (hL : ∀ seen a w, C w → L seen a → wpAny P md ops Q m seen a w) (k : Nat) :
    ∀ (seen : Array Bool) (a : Act) (w : World), C w → Ahead P md ops C n L k seen a → wpAny P md ops Q (k + m) seen a w := by
  induction k with
  | zero => intro seen a w hw h; rw [Nat.zero_add]; exact hL _ _ _ hw h
  | succ k ih =>
    intro seen a w hw h
    rw [Nat.succ_add]
    refine ⟨fun e => absurd e h.1, fun i hi => ?_⟩
    exact wpOp_of_qOp hw (fun a' w' hw' h' => ih _ a' w' hw' h') (h.2 i hi).2

theorem Ahead.first {i : Nat} {oi : Oper} {v : Value} {L : Array Bool → Act → Prop} (hi : ops[i]? = some oi) (hsel : ∀ (j : Nat) (o : Oper) cs b, ops[j]? = some o → o.op ≠ .select cs b)
    (hs : Region.sinkB md ops n = true) (hc : Region.chainB md ops n = true) (hn : n < ops.size) (hin : i < n) (hdone : ∀ seen a, L seen a → ∀ j ∈ Region.ready md ops seen, n ≤ j) (k : Nat) :
    ∀ (seen : Array Bool) (a : Act), HeadInv md ops n seen → (∀ j oj, ops[j]? = some oj → j ≠ i → seen.getD j true = false → (∀ e ∈ oj.after, Region.binds md e = true → e.on ≠ i) → oi.apart ops oj = true) →
      i ∈ Region.ready md ops seen → YieldsIn P ops C oi v a → Ahead P md ops C n L k (seen.setIfInBounds i true) (a.put oi.dst v) → Ahead P md ops C n L (k + 1) seen a := by
  induction k with
  | zero =>
    intro seen a inv _ hr hy H
    refine ⟨fun e => (by rw [e] at hr; cases hr), fun j hj => ?_⟩
    have hlt : j < n := by
      by_cases h : j < n
      · exact h
      · exact absurd hj (tail_waits hs hc hn inv _ i rfl hin (mem_ready.1 hr).1 j (by omega))
    refine ⟨hlt, ?_⟩
    by_cases e : j = i
    · subst e; exact hy.qOp hi H
    · exact absurd (hdone _ _ H j (ready_mono hj e)) (by omega)
  | succ k ih =>
    intro seen a inv hfree hr hy H
    refine ⟨fun e => (by rw [e] at hr; cases hr), fun j hj => ?_⟩
    have hlt : j < n := by
      by_cases h : j < n
      · exact h
      · exact absurd hj (tail_waits hs hc hn inv _ i rfl hin (mem_ready.1 hr).1 j (by omega))
    refine ⟨hlt, ?_⟩
    by_cases e : j = i
    · subst e; exact hy.qOp hi H
    · obtain ⟨hjun, oj, hoj, hall⟩ := mem_ready.1 hj
      have hno : ∀ e ∈ oj.after, Region.binds md e = true → e.on ≠ i := fun e he hb heq => by
        have h1 := hall e he hb
        rw [heq, getD_both (mem_ready.1 hr).1] at h1
        cases h1
      have step := qOp_put hoj (hfree j oj hoj e hjun hno) (fun cs b => hsel i oi cs b hi) (fun cs b => hsel j oj cs b hoj) hy (H.2 j (ready_mono hj e)).2
      refine qOp_mono (fun a' h3 => ih (seen.setIfInBounds j true) a' (inv.set hj hlt) ?_ (ready_mono hr (fun h => e h.symm)) h3.1 ?_) step
      · intro m om hm hmi hun hnom
        refine hfree m om hm hmi ?_ hnom
        by_cases hjm : j = m
        · subst hjm; exact hjun
        · rwa [getD_set_ne true hjm] at hun
      · rw [Array.setIfInBounds_comm _ _ e]; exact h3.2

theorem Ahead.lex {m : Nat} {T : Act → Prop} (hsel : Region.noSelect ops = true) (hs : Region.sinkB md ops n = true) (hc : Region.chainB md ops n = true) (hn : n < ops.size) (l : List Oper) :
    ∀ (k : Nat) (seen : Array Bool) (a : Act), (∀ j, j < l.length → l[j]? = ops[k + j]?) → k + l.length = n → HeadInv md ops n seen → Region.lexHead md ops m l.length k seen = true → wpQuiet P ops C T l a →
      Ahead P md ops C n (fun seen' a' => Region.seqB md ops m n seen' = true ∧ T a') l.length seen a := by
  induction l with
  | nil =>
    intro k seen a _ hk _ hB h
    simp at hk
    subst hk
    exact ⟨by simpa [Region.lexHead] using hB, h⟩
  | cons o l ih =>
    intro k seen a hl hk inv hB h
    have h0 : ops[k]? = some o := by simpa using (hl 0 (by simp)).symm
    simp only [List.length_cons] at hk
    simp only [List.length_cons, Region.lexHead, Bool.and_eq_true] at hB
    have hr : k ∈ Region.ready md ops seen := by simpa using hB.1.1
    have hq : qOp P ops C k (wpQuiet P ops C T l) a := by unfold qOp; simp only [h0]; exact h
    obtain ⟨v, hy, hK⟩ := yieldsIn_of_qOp h0 hq
    refine Ahead.first h0 (Region.noSelect_spec hsel) hs hc hn (by omega) (fun seen' a' hL => seqB_ready hL.1) l.length seen a inv (Region.free_spec h0 hB.1.2) hr hy ?_
    exact ih (k + 1) _ _ (fun j hj => by have := hl (j + 1) (by simp; omega); simpa [Nat.add_assoc, Nat.add_comm 1 j] using this) (by omega) (inv.set hr (by omega)) hB.2 hK

theorem wp_region_tail {id : Nat} {Q : Exit → Act → World → Prop} {a : Act} {w : World} {l : List Oper} (n : Nat) (hm : P.follows .mixedOrders = true) (hB : Region.lexTailB .any l.toArray n = true) (hC : C { w with drawn := w.drawn + 1 })
    (h : wpQuiet P l.toArray C (fun a' => ∀ w', C w' → wpList P l.toArray Q (l.drop n) a' w') (l.take n) a) : (Code.region id l.toArray true).wp P Q a w := by
  simp only [Region.lexTailB, Bool.and_eq_true, decide_eq_true_eq] at hB
  obtain ⟨⟨⟨⟨hsel, hn⟩, hs⟩, hc⟩, hlex⟩ := hB
  have hn' : n < l.length := by simpa using hn
  have htl : (l.take n).length = n := by simp; omega
  have hdl : (l.drop n).length = l.toArray.size - n := by simp
  have inv0 : HeadInv .any l.toArray n (Array.replicate l.toArray.size false) :=
    ⟨by simp, fun j oj _ hl => (by rw [getD_replicate_false] at hl; cases hl), fun t _ ht => getD_in (by simpa using ht) (getD_replicate_false _ _)⟩
  have H := Ahead.lex (md := .any) (m := l.toArray.size - n) hsel hs hc hn (l.take n) 0 _ a (fun j hj => by rw [htl] at hj; simp [hj]) (by simpa using htl) inv0 (by rw [htl]; exact hlex) h
  refine wp_region_any hm ?_
  have R := Ahead.any (Q := Q) (m := l.toArray.size - n) (fun seen a' w' hw' hL => by
    have := wpAny_of_seq (md := .any) (Q' := Q) (l.drop n) n seen a' w' (fun j => by simp [List.getElem?_drop]) (by rw [hdl]; exact hL.1) (hL.2 w' hw')
    rwa [hdl] at this) _ _ _ _ hC H
  rw [htl, show n + (l.toArray.size - n) = l.toArray.size by omega] at R
  exact R
/-- at the class of worlds in which nothing that was there has turned -/
theorem wp_region_below_tail {id : Nat} {Q : Exit → Act → World → Prop} {a : Act} {w : World} {l : List Oper} (n : Nat) (hm : P.follows .mixedOrders = true) (hB : Region.lexTailB .any l.toArray n = true)
    (h : wpQuiet P l.toArray (fun w' => ∃ p : Regrown, w' = Sort.grow (redrawn w p.d) p.os) (fun a' => ∀ w', (∃ p : Regrown, w' = Sort.grow (redrawn w p.d) p.os) → wpList P l.toArray Q (l.drop n) a' w') (l.take n) a) : (Code.region id l.toArray true).wp P Q a w :=
  wp_region_tail n hm hB ⟨⟨w.drawn + 1, #[]⟩, by rw [Sort.grow_empty]; rfl⟩ h
end
end Go.Proofs.YtjmglgcifekhgaaDoor
/- Slices of rows of 64 numbers in memory: 'Rws w G n R': n rows lie at G, the i-th is R i. No number of a program stands here. -/
namespace Go.Proofs.YtjmglgcifekhgaaDoor
open Go Go.RowKit
set_option linter.unusedVariables false

structure Rws (w : World) (G n : Nat) (R : Nat → Nat → Int) : Prop where
  row : ∀ i, i < n → w.rangeAt G (i * 64) (vf (R i)).toList
  free : ∀ i, i < n → w.there G (i * 64) 64
theorem vl_length (f : Nat → Int) : (vf f).toList.length = 64 := by rw [Array.length_toList, vf_size]
theorem vl_get (f : Nat → Int) (j : Nat) (h : j < 64) : (vf f).toList[j]? = some (.int .i64 (f j)) := by rw [Array.getElem?_toList, vf_get f j h]
theorem vl_one (f : Nat → Int) : ∀ v ∈ (vf f).toList, v.oneCell' = true := fun v hv => (Array.all_eq_true_iff_forall_mem.1 (vf_one f)) v (by simpa using hv)
theorem Rws.lt {w : World} {G n : Nat} {R : Nat → Nat → Int} (h : Rws w G n R) (h0 : 0 < n) : G < w.heap.size := World.block_lt_of_cell? w _ (h.row 0 h0 0 _ (vl_get _ 0 (by omega)))
theorem Rws.cell {w : World} {G n : Nat} {R : Nat → Nat → Int} (h : Rws w G n R) (i j : Nat) (hi : i < n) (hj : j < 64) : w.cell? ⟨G, i * 64 + j, none⟩ = some (.int .i64 (R i j)) := h.row i hi j _ (vl_get _ j hj)
theorem there_below {w w' : World} {b o n : Nat} (h : w.there b o n) (hb : Below w.heap.size w w') : w'.there b o n := fun j hj => by
  obtain ⟨h1, h2⟩ := h j hj
  obtain ⟨u, hu⟩ := Option.isSome_iff_exists.1 h1
  have hlt := World.block_lt_of_cell? w _ hu
  exact ⟨by rw [hb.cell (p := ⟨b, o + j, none⟩) hlt]; exact h1, by rw [hb.frozen (p := ⟨b, o + j, none⟩) hlt]; exact h2⟩
theorem Rws.later {w w' : World} {G n : Nat} {R : Nat → Nat → Int} (h : Rws w G n R) (hb : Below w.heap.size w w') : Rws w' G n R :=
  ⟨fun i hi => range_below (h.row i hi) hb, fun i hi => there_below (h.free i hi) hb⟩
theorem Rws.kept {w w' : World} {G n : Nat} {R : Nat → Nat → Int} (h : Rws w G n R) {row : Option Nat} (hg : w.grownBy w' row) (hne : some G ≠ row) : Rws w' G n R := by
  refine ⟨fun i hi j v hv => hg.cell (h.row i hi j v hv) hne, fun i hi j hj => ?_⟩
  obtain ⟨h1, h2⟩ := h.free i hi j hj
  obtain ⟨u, hu⟩ := Option.isSome_iff_exists.1 h1
  have hlt := World.block_lt_of_cell? w _ hu
  exact ⟨by rw [hg.cell hu hne]; rfl, by rw [World.frozen?_of_block (w := w) (hg.block G hlt hne)]; exact h2⟩
theorem Rws.under {w w' : World} {G n B : Nat} {R : Nat → Nat → Int} (h : Rws w G n R) (hb : Below B w w') (hG : G < B) : Rws w' G n R :=
  ⟨fun i hi j v hv => by rw [hb.cell (p := ⟨G, i * 64 + j, none⟩) hG]; exact h.row i hi j v hv, fun i hi j hj => by
    obtain ⟨h1, h2⟩ := h.free i hi j hj
    exact ⟨by rw [hb.cell (p := ⟨G, i * 64 + j, none⟩) hG]; exact h1, by rw [hb.frozen (p := ⟨G, i * 64 + j, none⟩) hG]; exact h2⟩⟩
theorem grown_then {a b c : World} {r : Option Nat} (h : a.grownBy b r) (k : b.grownBy c r) : a.grownBy c r :=
  ⟨k.os.trans h.os, k.tape.trans h.tape, k.output.trans h.output, Nat.le_trans h.size k.size, fun i hi hne => (k.block i (Nat.lt_of_lt_of_le hi h.size) hne).trans (h.block i hi hne)⟩
theorem grown_of_below {a b : World} {r : Option Nat} (h : Below a.heap.size a b) : a.grownBy b r := ⟨h.os, h.tape, h.output, h.size, fun i hi _ => h.block i hi⟩
theorem grown_cells (G : Nat) (vs : List Value) : ∀ (o : Nat) (w : World), w.grownBy (w.setCells G o vs) (some G) := by
  induction vs with
  | nil => intro o w; exact ⟨rfl, rfl, rfl, Nat.le_refl _, fun _ _ _ => rfl⟩
  | cons v vs ih => intro o w; exact grown_then (grown_cell w G o v) (ih _ _)
/-- the rows with the i-th another one -/
def rset (R : Nat → Nat → Int) (i : Nat) (f : Nat → Int) : Nat → Nat → Int := fun j => if j = i then f else R j
theorem Rws.set {w : World} {G n : Nat} {R : Nat → Nat → Int} (h : Rws w G n R) (i : Nat) (hi : i < n) (f : Nat → Int) : Rws (w.setCells G (i * 64) (vf f).toList) G n (rset R i f) := by
  refine ⟨fun j hj => ?_, fun j hj => World.there_setCells (h.free j hj) _ _ _⟩
  unfold rset
  by_cases e : j = i
  · subst e
    rw [if_pos rfl]
    exact World.rangeAt_setCells_same _ _ _ _ (by rw [vl_length]; exact h.free j hj)
  · rw [if_neg e]
    exact World.rangeAt_setCells_apart (h.row j hj) _ _ _ (.inr (by rw [vl_length, vl_length]; omega))

section
variable {P : Program} {t e sl : TypeId} {ops : Array Oper} {rest : List Oper} {o : Oper} {a : Act} {w : World} {Q : Exit → Act → World → Prop}
theorem quiet_range {W W' : World} {b o : Nat} {cs : List Value} (h : W.rangeAt b o cs) (hc : ∃ p : Regrown, W' = Sort.grow (redrawn W p.d) p.os) : W'.rangeAt b o cs := by
  obtain ⟨p, rfl⟩ := hc
  exact range_below h (below_regrown W p.d p.os)
theorem Vec.midAt (V : Vec P t e) {W : World} {b o : Nat} {f : Nat → Int} (h : W.rangeAt b o (vf f).toList) : (Instr.loadAt t (.pointer (some ⟨b, o, none⟩))).run P W = .ok (.agg (vf f)) W := by
  have := run_loadAt_mid W b o t (vf f).toList _ h V.array rfl (by rw [vl_length]; exact V.whole)
  simpa using this
theorem wpQuiet_vmid {C : World → Prop} {R : Act → Prop} (V : Vec P t e) (hg : o.guard = none) (x : Operand) (ho : o.op = .load t x) (b c : Nat) (hx : a.eval x = .pointer (some ⟨b, c, none⟩)) (f : Nat → Int) (hr : ∀ w, C w → w.rangeAt b c (vf f).toList)
    (hk : wpQuiet P ops C R rest (a.put o.dst (.agg (vf f)))) : wpQuiet P ops C R (o :: rest) a := by
  refine wpQuiet_val hg (fun w hw => ?_) hk
  unfold execOp
  simp only [ho, hx, Sem.run_bind, V.midAt (hr w hw), Result.andThen_ok]
  rfl
theorem wpList_vmid (V : Vec P t e) (hg : o.guard = none) (x : Operand) (ho : o.op = .load t x) (b c : Nat) (hx : a.eval x = .pointer (some ⟨b, c, none⟩)) (f : Nat → Int) (hr : w.rangeAt b c (vf f).toList)
    (h : wpList P ops Q rest (a.put o.dst (.agg (vf f))) w) : wpList P ops Q (o :: rest) a w := by
  refine wpList_load_mid hg t x ho b c hx (vf f).toList _ hr V.array rfl (by rw [vl_length]; exact V.whole) ?_
  simpa using h
theorem wpList_vmidG (V : Vec P t e) (hw : Region.wanted o (yielded ops a.tmps) = true) (x : Operand) (ho : o.op = .load t x) (b c : Nat) (hx : a.eval x = .pointer (some ⟨b, c, none⟩)) (f : Nat → Int) (hr : w.rangeAt b c (vf f).toList)
    (h : wpList P ops Q rest (a.put o.dst (.agg (vf f))) w) : wpList P ops Q (o :: rest) a w := by
  refine BigFrame.wpList_want hw fun K hK => ?_
  refine wp_load_mid t x ho b c hx (vf f).toList _ hr V.array rfl (by rw [vl_length]; exact V.whole) ?_
  simpa using hK _ _ h
theorem wpList_vput (V : Vec P t e) (hg : o.guard = none) (x y : Operand) (ho : o.op = .store t x y) (b c : Nat) (f : Nat → Int) (hx : a.eval x = .pointer (some ⟨b, c, none⟩)) (hy : a.eval y = .agg (vf f)) (ht : w.there b c 64)
    (h : wpList P ops Q rest (a.put o.dst undef) (w.setCells b c (vf f).toList)) : wpList P ops Q (o :: rest) a w :=
  wpList_store_mid hg t x y ho b c (vf f) hx hy (by rw [vf_size]; exact ht) (by rw [vf_size]; exact V.whole) (vf_one f) h

theorem made_rows (z : Value) (hz : z.cells = vf fun _ => 0) (n k : Nat) (hk : k < n) : (madeCells z.cells n)[k]? = some (.int .i64 0) := by
  unfold madeCells
  rw [hz, vf_size]
  have hm : k % 64 < 64 := Nat.mod_lt _ (by omega)
  simp only [Array.getElem?_map, Array.getElem?_range, hk, if_true, Option.map_some]
  congr 1
  rw [getElem!_pos (vf fun _ => 0) (k % 64) (by rw [vf_size]; exact hm)]
  have := vf_get (fun _ => 0) (k % 64) hm
  rw [Array.getElem?_eq_getElem (by rw [vf_size]; exact hm)] at this
  exact Option.some.inj this
/-- 'make([]Vector, n)' -/
theorem make_rows (hsl : P.underlying sl = some (.slice t)) {z : Value} (hz : z.cells = vf fun _ => 0) (hi : (P.info? t).map (fun i => (i.zero, i.size, i.bytes)) = some (some z, 64, 512)) (n : Nat) (hn : n ≤ 64) (w : World) :
    (Instr.makeSlice sl (.int .i64 n) (.int .i64 n)).run P w = .ok (.slice (some ⟨w.heap.size, 0, none⟩) n n) (w.alloc (.cells (madeCells z.cells (n * 64)) t)) ∧ Rws (w.alloc (.cells (madeCells z.cells (n * 64)) t)) w.heap.size n (fun _ _ => 0) := by
  obtain ⟨i0, hi0, hz0, hz1, hz2⟩ := info_parts hi
  have h := run_make (P := P) w sl t i0 z hsl hi0 hz0 .i64 .i64 (n : Int) (n : Int) (by omega) (by omega) (by rw [hz2]; omega) (by omega)
  rw [hz1] at h
  simp only [Int.toNat_natCast] at h
  refine ⟨h, fun i hi j v hv => ?_, fun i hi j hj => ?_⟩
  · have hj : j < 64 := by have := (List.getElem?_eq_some_iff.1 hv).1; rw [vl_length] at this; exact this
    rw [vl_get _ j hj] at hv
    obtain rfl := Option.some.inj hv
    rw [cell_of_row _ w.heap.size _ _ _ _ (heap_alloc_new w _), made_rows z hz _ _ (by omega)]
  · refine ⟨?_, frozen_of_row _ _ _ _ _ (heap_alloc_new w _)⟩
    rw [cell_of_row _ w.heap.size _ _ _ _ (heap_alloc_new w _), made_rows z hz _ _ (by omega)]; rfl
end
end Go.Proofs.YtjmglgcifekhgaaDoor
/- Things of some cells by value, as a walk meets them: read from a place, a variable made, written whole. No number of a program stands here. -/
namespace Go.Proofs.YtjmglgcifekhgaaDoor
open Go Go.RowKit
set_option linter.unusedVariables false

section
variable {P : Program} {t : TypeId} {ops : Array Oper} {rest : List Oper} {o : Oper} {a : Act} {w : World} {Q : Exit → Act → World → Prop}
theorem wpList_gload (hg : o.guard = none) (x : Operand) (ho : o.op = .load t x) (b c : Nat) (hx : a.eval x = .pointer (some ⟨b, c, none⟩)) (cs : List Value) (hr : w.rangeAt b c cs) (d : TypeDesc) (hu : P.underlying t = some d) (hd : d.isRow = true) (hi : (P.info? t).map (·.size) = some cs.length)
    (h : wpList P ops Q rest (a.put o.dst (.agg cs.toArray)) w) : wpList P ops Q (o :: rest) a w :=
  wpList_load_mid hg t x ho b c hx cs d hr hu hd hi h
theorem wpList_galloc (z : Value) (hz : ∀ w, (zeroValue t).run P w = .ok z w) (hg : o.guard = none) (ho : o.op = .alloc t)
    (h : ∀ g w', w.heap.size ≤ g → w'.heap[g]? = some (.cells z.cells t (0, 0)) → Below w.heap.size w w' → wpList P ops Q rest (a.put o.dst (.pointer (some ⟨g, 0, none⟩))) w') : wpList P ops Q (o :: rest) a w := by
  refine Great.wpList_runTo hg o.dst rfl (.pointer (some ⟨w.heap.size, 0, none⟩)) (w.alloc (.cells z.cells t)) ?_ (h _ _ (Nat.le_refl _) (heap_alloc_new w _) (below_alloc w _))
  unfold execOp
  simp only [ho, Instr.alloc, Sem.run_bind, hz, Result.andThen_ok]
  rfl
theorem wpList_gbox (hg : o.guard = none) (x : Operand) (ho : o.op = .box t x) (cs : Array Value) (hx : a.eval x = .agg cs)
    (h : ∀ g w', w.heap.size ≤ g → w'.heap[g]? = some (.cells cs t (0, 0)) → Below w.heap.size w w' → wpList P ops Q rest (a.put o.dst (.pointer (some ⟨g, 0, none⟩))) w') : wpList P ops Q (o :: rest) a w := by
  refine Great.wpList_runTo hg o.dst rfl (.pointer (some ⟨w.heap.size, 0, none⟩)) (w.alloc (.cells cs t)) ?_ (h _ _ (Nat.le_refl _) (heap_alloc_new w _) (below_alloc w _))
  unfold execOp
  simp only [ho, hx]
  rfl
theorem grown_setRow {g : Nat} {cs old : Array Value} {ty : TypeId} {m : Nat × Nat} (h : w.heap[g]? = some (.cells old ty m)) : w.grownBy (w.setRow g cs) (some g) ∧ (w.setRow g cs).heap[g]? = some (.cells cs ty m) := by
  refine ⟨⟨rfl, rfl, rfl, by simp [World.setRow], fun i hi hne => ?_⟩, ?_⟩
  · show (w.heap.modify g _)[i]? = _
    rw [Array.getElem?_modify, if_neg (fun e => hne (by rw [e]))]
  · show (w.heap.modify g _)[g]? = _
    rw [Array.getElem?_modify, if_pos rfl, h]
    rfl
theorem wpList_gstore (hg : o.guard = none) (x y : Operand) (ho : o.op = .store t x y) (g : Nat) (hx : a.eval x = .pointer (some ⟨g, 0, none⟩)) (cs : Array Value) (hy : a.eval y = .agg cs) (ty : TypeId) (old : Array Value) (hr : w.heap[g]? = some (.cells old ty (0, 0)))
    (hi : (P.info? t).map (·.size) = some cs.size) (hold : old.size = cs.size) (h1 : ∀ v ∈ cs.toList, v.oneCell' = true)
    (h : ∀ w', w'.heap[g]? = some (.cells cs ty (0, 0)) → w.grownBy w' (some g) → wpList P ops Q rest (a.put o.dst undef) w') : wpList P ops Q (o :: rest) a w :=
  wpList_store_row hg t x y ho g cs hx hy ty old hr hi hold (Array.all_eq_true_iff_forall_mem.2 (fun v hv => h1 v (by simpa using hv)))
    (h _ (grown_setRow hr).2 (grown_setRow hr).1)
theorem wpList_gloadG (hw : Region.wanted o (yielded ops a.tmps) = true) (x : Operand) (ho : o.op = .load t x) (b c : Nat) (hx : a.eval x = .pointer (some ⟨b, c, none⟩)) (cs : List Value) (hr : w.rangeAt b c cs) (d : TypeDesc) (hu : P.underlying t = some d) (hd : d.isRow = true) (hi : (P.info? t).map (·.size) = some cs.length)
    (h : wpList P ops Q rest (a.put o.dst (.agg cs.toArray)) w) : wpList P ops Q (o :: rest) a w := by
  refine BigFrame.wpList_want hw fun K hK => ?_
  exact wp_load_mid t x ho b c hx cs d hr hu hd hi (hK _ _ h)
theorem range_of_block {g : Nat} {cs : Array Value} {ty : TypeId} {m : Nat × Nat} (h : w.heap[g]? = some (.cells cs ty m)) : w.rangeAt g 0 cs.toList := fun j v hv => by
  rw [cell_of_row w g (0 + j) _ _ _ h, Nat.zero_add]; simpa using hv
end
end Go.Proofs.YtjmglgcifekhgaaDoor
/- How two dots stand. -/
namespace Go.Proofs.YtjmglgcifekhgaaDoor
open Go Go.RowKit
set_option linter.unusedVariables false

/-- -1, 0, 1 -/
def cmpI (x y : Int) : Int := if x < y then -1 else if x > y then 1 else 0
theorem isNaN_is (x : Int) (w : World) : Calls Tryd.prog 85 #[.int .i64 x] w fun e w' => e = .returned (.bool false) ∧ w = w' := by
  go_enter Tryd.func85, Tryd.ntmps85
  go_wp2
  go_ret
  exact ⟨ret_bool (by simp), rfl⟩
theorem compare_is (x y : Int) (w : World) : Calls Tryd.prog 64 #[.int .i64 x, .int .i64 y] w fun e w' => e = .returned (.int .i64 (cmpI x y)) ∧ w = w' := by
  have Nx := Lib.hid (isNaN_is x w); have Ny := Lib.hid (isNaN_is y w)
  unfold cmpI
  by_cases h : x < y
  · rw [if_pos h]
    go_enter Tryd.func64, Tryd.ntmps64
    go_wp2_with fail
    refine Nx.out.mono ?_
    rintro e w' ⟨rfl, rfl⟩
    go_wp2_with fail
    refine Ny.out.mono ?_
    rintro e w' ⟨rfl, rfl⟩
    go_wp2
    go_ret
    exact ⟨rfl, rfl⟩
  · rw [if_neg h]
    by_cases h2 : x > y
    · rw [if_pos h2]
      go_enter Tryd.func64, Tryd.ntmps64
      go_wp2_with fail
      refine Nx.out.mono ?_
      rintro e w' ⟨rfl, rfl⟩
      go_wp2_with fail
      refine Ny.out.mono ?_
      rintro e w' ⟨rfl, rfl⟩
      go_wp2
      go_ret
      exact ⟨rfl, rfl⟩
    · rw [if_neg h2]
      go_enter Tryd.func64, Tryd.ntmps64
      go_wp2_with fail
      refine Nx.out.mono ?_
      rintro e w' ⟨rfl, rfl⟩
      go_wp2_with fail
      refine Ny.out.mono ?_
      rintro e w' ⟨rfl, rfl⟩
      go_wp2
      go_ret
      exact ⟨rfl, rfl⟩
/-- the first one that is not nought -/
def orI (x y : Int) : Int := if x = 0 then y else x
theorem or_is (G : Nat) (x y : Int) (w : World) (h0 : w.cell? ⟨G, 0, none⟩ = some (.int .i64 x)) (h1 : w.cell? ⟨G, 1, none⟩ = some (.int .i64 y)) :
    Calls Tryd.prog 62 #[.slice (some ⟨G, 0, none⟩) 2 2] w fun e w' => e = .returned (.int .i64 (orI x y)) ∧ w = w' := by
  have e00 : orI 0 y = y := by simp [orI]
  have HO := Lib.hid e00
  clear e00
  go_enter Tryd.func62, Tryd.ntmps62
  go_wp2
  go_loop [8] (fun i => (i = .int .i64 0) ∨ (i = .int .i64 1 ∧ x = 0) ∨ (i = .int .i64 2 ∧ x = 0 ∧ y = 0)) (fun i => 2 - (intOf i).toNat)
  case atStart => exact .inl rfl
  case round =>
    rcases hrel with rfl | ⟨rfl, rfl⟩ | ⟨rfl, rfl, rfl⟩
    · by_cases hx : x = 0
      · subst hx
        go_wp2
        go_round
        case rel => exact .inr (.inl (by simp))
        case measure => simp [intOf]
      · have e1 : (x != 0) = true := by simpa using hx
        have HX : Hid (orI x y = x) := by show orI x y = x; simp [orI, hx]
        clear hx
        go_wp2
        go_ret
        exact ⟨by rw [HX.out]; rfl, rfl⟩
    · by_cases hy : y = 0
      · subst hy
        go_wp2
        go_round
        case rel => exact .inr (.inr (by simp))
        case measure => simp [intOf]
      · have e1 : (y != 0) = true := by simpa using hy
        clear hy
        go_wp2
        go_ret
        exact ⟨by rw [HO.out]; rfl, rfl⟩
    · go_wp2
      go_ret
      exact ⟨by rw [HO.out]; rfl, rfl⟩

/-- how two dots stand -/
def cmpD (r n r' n' : Int) : Int := orI (cmpI r r') (cmpI n n')
def lessD (r n r' n' : Int) : Bool := decide (r < r') || (decide (r = r') && decide (n < n'))
theorem cmpD_lt (r n r' n' : Int) : decide (cmpD r n r' n' < 0) = lessD r n r' n' := by
  unfold cmpD lessD orI cmpI
  by_cases h1 : r < r'
  · simp [h1]
  · by_cases h2 : r' < r
    · have : r ≠ r' := by omega
      simp [h1, h2, this]
    · have : r = r' := by omega
      subst this
      by_cases h3 : n < n'
      · simp [h3]
      · by_cases h4 : n' < n <;> simp [h3, h4]
theorem cmpD_gt (r n r' n' : Int) : decide (cmpD r n r' n' > 0) = lessD r' n' r n := by
  unfold cmpD lessD orI cmpI
  by_cases h1 : r < r'
  · have : ¬ r' < r := by omega
    have h5 : r' ≠ r := by omega
    simp [h1, this, h5]
  · by_cases h2 : r' < r
    · simp [h1, h2]
    · have : r = r' := by omega
      subst this
      by_cases h3 : n < n'
      · have : ¬ n' < n := by omega
        simp [h3, this]
      · by_cases h4 : n' < n <;> simp [h3, h4]
set_option maxHeartbeats 1000000 in
set_option maxRecDepth 100000 in
theorem dotCompare_is (r n r' n' : Int) (w : World) : Calls Tryd.prog 65 #[.agg #[.int .i64 r, .int .i64 n], .agg #[.int .i64 r', .int .i64 n']] w fun e w' => e = .returned (.int .i64 (cmpD r n r' n')) ∧ Below w.heap.size w w' := by
  go_enter Tryd.func65, Tryd.ntmps65
  go_wp2
  have hA := heap_alloc_new w (.cells #[.int .i64 r, .int .i64 n] 28)
  have hB := heap_alloc_new (w.alloc (.cells #[.int .i64 r, .int .i64 n] 28)) (.cells #[.int .i64 r', .int .i64 n'] 28)
  have hbel : Below w.heap.size w ((w.alloc (.cells #[.int .i64 r, .int .i64 n] 28)).alloc (.cells #[.int .i64 r', .int .i64 n'] 28)) := thenBelow (below_alloc _ _) (below_alloc _ _)
  have hz : (w.alloc (.cells #[.int .i64 r, .int .i64 n] 28)).heap.size = w.heap.size + 1 := by simp
  rw [hz] at hB
  have a0 := cell_alloc (.cells #[.int .i64 r', .int .i64 n'] 28) ((cell_of_row _ w.heap.size 0 _ _ _ hA).trans (show _ = some (.int .i64 r) from rfl))
  have a1 := cell_alloc (.cells #[.int .i64 r', .int .i64 n'] 28) ((cell_of_row _ w.heap.size 1 _ _ _ hA).trans (show _ = some (.int .i64 n) from rfl))
  have b0 := (cell_of_row _ (w.heap.size + 1) 0 _ _ _ hB).trans (show _ = some (.int .i64 r') from rfl)
  have b1 := (cell_of_row _ (w.heap.size + 1) 1 _ _ _ hB).trans (show _ = some (.int .i64 n') from rfl)
  generalize (w.alloc (.cells #[.int .i64 r, .int .i64 n] 28)).alloc (.cells #[.int .i64 r', .int .i64 n'] 28) = w2 at hbel a0 a1 b0 b1 ⊢
  clear hA hB hz
  have B2 := Lib.hid hbel
  have a0 := cell_regrown a0; have a1 := cell_regrown a1; have b0 := cell_regrown b0; have b1 := cell_regrown b1
  have c1 := quiet_call (w := w2) (fun W => (compare_is r r' W).mono fun e w' ⟨h1, h2⟩ => ⟨h1, by subst h2; exact Below.refl _ _⟩)
  have c2 := quiet_call (w := w2) (fun W => (compare_is n n' W).mono fun e w' ⟨h1, h2⟩ => ⟨h1, by subst h2; exact Below.refl _ _⟩)
  have HD : Hid (cmpD r n r' n' = orI (cmpI r r') (cmpI n n')) := rfl
  generalize cmpI r r' = x at c1 HD
  generalize cmpI n n' = y at c2 HD
  refine wp_region_below_tail 10 (by kernel_rfl) (by kernel_rfl) ?_
  simp only [List.take_succ_cons, List.take_zero, List.drop_succ_cons, List.drop_zero]
  iterate 4 (quiet_step (fail))
  quiet_step (exact c1 _ _)
  iterate 4 (quiet_step (fail))
  quiet_step (exact c2 _ _)
  refine wpQuiet_nil ?_
  rintro _ ⟨⟨dq, osq⟩, rfl⟩
  have B3 := Lib.hid (thenBelow B2.out (below_regrown w2 dq osq))
  generalize Sort.grow (redrawn w2 dq) osq = w3 at B3 ⊢
  clear a0 a1 b0 b1 c1 c2
  have hO := Lib.hid (or_is w3.heap.size x y (w3.alloc (.cells #[.int .i64 x, .int .i64 y] 3)) ((cell_of_row _ w3.heap.size 0 _ _ _ (heap_alloc_new w3 _)).trans rfl) ((cell_of_row _ w3.heap.size 1 _ _ _ (heap_alloc_new w3 _)).trans rfl))
  have B4 := Lib.hid (thenBelow B3.out (below_alloc w3 (.cells #[.int .i64 x, .int .i64 y] 3)))
  go_wp2_with fail
  refine hO.out.mono ?_
  rintro e w' ⟨rfl, rfl⟩
  go_wp2
  go_ret
  exact ⟨by rw [HD.out]; rfl, B4.out⟩
theorem less_is (r n r' n' : Int) (w : World) : Calls Tryd.prog 50 #[.agg #[.int .i64 r, .int .i64 n], .agg #[.int .i64 r', .int .i64 n']] w fun e w' => e = .returned (.bool (lessD r n r' n')) ∧ Below w.heap.size w w' := by
  have L0 : Hid (lessD r n r' n' = (decide (r < r') || (decide (r = r') && decide (n < n')))) := rfl
  by_cases h1 : r < r'
  · go_enter Tryd.func50, Tryd.ntmps50
    go_wp2
    go_ret
    exact ⟨ret_bool (by rw [L0.out]; simp [h1]), thenBelow (below_alloc _ _) (below_alloc _ _)⟩
  · by_cases h2 : r = r'
    · subst h2
      go_enter Tryd.func50, Tryd.ntmps50
      go_wp2
      go_ret
      exact ⟨ret_bool (by rw [L0.out]; simp), thenBelow (below_alloc _ _) (below_alloc _ _)⟩
    · have h3 : (r == r') = false := by simpa using h2
      go_enter Tryd.func50, Tryd.ntmps50
      go_wp2
      go_ret
      exact ⟨ret_bool (by rw [L0.out]; simp [h1, h2]), thenBelow (below_alloc _ _) (below_alloc _ _)⟩

/-- a dot's cells -/
def dcs (r n : Int) : Array Value := #[.int .i64 r, .int .i64 n]
def vldB (r n : Int) : Bool := decide (0 ≤ r ∧ r < 64 ∧ 1 ≤ n ∧ n ≤ 1073741824)
theorem vld_iff (r n : Int) : vldB r n = true ↔ 0 ≤ r ∧ r < 64 ∧ 1 ≤ n ∧ n ≤ 1073741824 := by simp [vldB]
theorem vld_cases (r n : Int) : (r < 0 ∧ vldB r n = false) ∨ ((0 ≤ r ∧ 64 ≤ r) ∧ vldB r n = false) ∨ ((0 ≤ r ∧ r < 64) ∧ n < 1 ∧ vldB r n = false) ∨ ((0 ≤ r ∧ r < 64) ∧ (1 ≤ n ∧ 1073741824 < n) ∧ vldB r n = false) ∨ ((0 ≤ r ∧ r < 64) ∧ (1 ≤ n ∧ n ≤ 1073741824) ∧ vldB r n = true) := by
  have h := vld_iff r n
  cases e : vldB r n with
  | true => have := h.1 e; exact .inr (.inr (.inr (.inr ⟨⟨by omega, by omega⟩, ⟨by omega, by omega⟩, rfl⟩)))
  | false =>
    have : ¬ (0 ≤ r ∧ r < 64 ∧ 1 ≤ n ∧ n ≤ 1073741824) := fun h2 => by rw [h.2 h2] at e; cases e
    simp only [true_and, and_true]
    omega
theorem valid_is (r n : Int) (w : World) : Calls Tryd.prog 54 #[.agg (dcs r n)] w (RetBool w (vldB r n)) := by
  have key := vld_cases r n
  generalize vldB r n = b at key
  unfold dcs
  rcases key with ⟨h1, rfl⟩ | ⟨⟨h1, h2⟩, rfl⟩ | ⟨⟨h1, h2⟩, h3, rfl⟩ | ⟨⟨h1, h2⟩, ⟨h3, h4⟩, rfl⟩ | ⟨⟨h1, h2⟩, ⟨h3, h4⟩, rfl⟩
  all_goals
    go_enter Tryd.func54, Tryd.ntmps54
    go_wp2
    go_ret
    exact ⟨ret_bool (by first | rfl | (simp; done) | (simp; omega)), below_alloc _ _⟩
theorem refValid_is (r n : Int) (w : World) : Calls Tryd.prog 48 #[.agg (dcs r n)] w (RetBool w (vldB r n)) := by
  have key := vld_cases r n
  generalize vldB r n = b at key
  unfold dcs
  rcases key with ⟨h1, rfl⟩ | ⟨⟨h1, h2⟩, rfl⟩ | ⟨⟨h1, h2⟩, h3, rfl⟩ | ⟨⟨h1, h2⟩, ⟨h3, h4⟩, rfl⟩ | ⟨⟨h1, h2⟩, ⟨h3, h4⟩, rfl⟩
  all_goals
    go_enter Tryd.func48, Tryd.ntmps48
    go_wp2
    go_ret
    exact ⟨ret_bool (by first | rfl | (simp; done) | (simp; omega)), below_alloc _ _⟩

def hasB (f : Nat → Int) (r n : Int) : Bool := vldB r n && decide (n ≤ f r.toNat)
theorem has_in (f : Nat → Int) (i : Nat) (n : Int) (h : vldB i n = true) : hasB f i n = decide (n ≤ f i) := by simp [hasB, h]
theorem has_out (f : Nat → Int) (r n : Int) (h : vldB r n = false) : hasB f r n = false := by simp [hasB, h]
def withF (f : Nat → Int) (r n : Int) : Nat → Int := if vldB r n then vset f r.toNat (max (f r.toNat) n) else f
theorem with_in (f : Nat → Int) (i : Nat) (n : Int) (h : vldB i n = true) : withF f i n = vset f i (max (f i) n) := by simp [withF, h]
theorem with_out (f : Nat → Int) (r n : Int) (h : vldB r n = false) : withF f r n = f := by simp [withF, h]

set_option maxHeartbeats 1000000 in
set_option maxRecDepth 100000 in
theorem has_is (f : Nat → Int) (r n : Int) (w : World) : Calls Tryd.prog 25 #[.agg (vf f), .agg (dcs r n)] w (RetBool w (hasB f r n)) := by
  go_enter Tryd.func25, Tryd.ntmps25
  go_wp2_with (refine wpList_vbox vecI rfl _ rfl f rfl ?_)
  intro gv w1 lv rv hb1
  have B1 := Lib.hid hb1; have RV1 := Lib.hid rv
  clear hb1 rv
  go_wp2_with (refine wpList_gbox rfl _ rfl (dcs r n) rfl ?_)
  intro gd w2 ld hD hb2
  have B2 := Lib.hid (thenBelow B1.out hb2); have RV2 := Lib.hid (RV1.out.later hb2)
  have d0 := cell_regrown ((cell_of_row _ gd 0 _ _ _ hD).trans (show _ = some (.int .i64 r) from rfl))
  have d1 := cell_regrown ((cell_of_row _ gd 1 _ _ _ hD).trans (show _ = some (.int .i64 n) from rfl))
  have D0 := Lib.hid hD
  clear hD hb2
  have cV := quiet_call (w := w2) (valid_is r n)
  unfold dcs at cV
  cases e : vldB r n with
  | true =>
    have hv := (vld_iff r n).1 e
    obtain ⟨i, rfl⟩ : ∃ i : Nat, r = (i : Int) := ⟨r.toNat, by omega⟩
    rw [e] at cV
    have HB := Lib.hid (has_in f i n e)
    have hc := cell_regrown (RV2.out.cell i (by omega))
    have hi64 : (i : Int) < 64 := by omega
    clear e hv
    generalize f i = x at hc HB
    go_wp2
    refine wp_region_quiet_below (by kernel_rfl) (by kernel_rfl) ?_
    quiet_step (fail)
    quiet_step (exact cV _ _)
    repeat (quiet_step (fail))
    refine wpQuiet_nil ?_
    rintro _ ⟨⟨dq, osq⟩, rfl⟩
    have B3 := Lib.hid (thenBelow B2.out (below_regrown w2 dq osq))
    generalize Sort.grow (redrawn w2 dq) osq = w3 at B3 ⊢
    clear d0 d1 cV hc
    go_wp2
    go_ret
    exact ⟨ret_bool (by first | (rw [HB.out]; done) | (rw [HB.out]; simp; done) | (rw [HB.out]; simp; omega)), B3.out⟩
  | false =>
    rw [e] at cV
    have HB := Lib.hid (has_out f r n e)
    clear e
    go_wp2
    refine wp_region_quiet_below (by kernel_rfl) (by kernel_rfl) ?_
    quiet_step (fail)
    quiet_step (exact cV _ _)
    repeat (quiet_step (fail))
    refine wpQuiet_nil ?_
    rintro _ ⟨⟨dq, osq⟩, rfl⟩
    have B3 := Lib.hid (thenBelow B2.out (below_regrown w2 dq osq))
    generalize Sort.grow (redrawn w2 dq) osq = w3 at B3 ⊢
    clear d0 d1 cV
    go_wp2
    go_ret
    exact ⟨ret_bool (by rw [HB.out]), B3.out⟩
set_option maxHeartbeats 1000000 in
set_option maxRecDepth 100000 in
theorem refHas_is (f : Nat → Int) (r n : Int) (w : World) : Calls Tryd.prog 21 #[.agg (vf f), .agg (dcs r n)] w (RetBool w (hasB f r n)) := by
  go_enter Tryd.func21, Tryd.ntmps21
  go_wp2_with (refine wpList_vbox vecI rfl _ rfl f rfl ?_)
  intro gv w1 lv rv hb1
  have B1 := Lib.hid hb1; have RV1 := Lib.hid rv
  clear hb1 rv
  go_wp2_with (refine wpList_gbox rfl _ rfl (dcs r n) rfl ?_)
  intro gd w2 ld hD hb2
  have B2 := Lib.hid (thenBelow B1.out hb2); have RV2 := Lib.hid (RV1.out.later hb2)
  have d0 := cell_regrown ((cell_of_row _ gd 0 _ _ _ hD).trans (show _ = some (.int .i64 r) from rfl))
  have d1 := cell_regrown ((cell_of_row _ gd 1 _ _ _ hD).trans (show _ = some (.int .i64 n) from rfl))
  have D0 := Lib.hid hD
  clear hD hb2
  have cV := quiet_call (w := w2) (refValid_is r n)
  unfold dcs at cV
  cases e : vldB r n with
  | true =>
    have hv := (vld_iff r n).1 e
    obtain ⟨i, rfl⟩ : ∃ i : Nat, r = (i : Int) := ⟨r.toNat, by omega⟩
    rw [e] at cV
    have HB := Lib.hid (has_in f i n e)
    have hc := cell_regrown (RV2.out.cell i (by omega))
    have hi64 : (i : Int) < 64 := by omega
    clear e hv
    generalize f i = x at hc HB
    go_wp2
    refine wp_region_quiet_below (by kernel_rfl) (by kernel_rfl) ?_
    quiet_step (fail)
    quiet_step (exact cV _ _)
    repeat (quiet_step (fail))
    refine wpQuiet_nil ?_
    rintro _ ⟨⟨dq, osq⟩, rfl⟩
    have B3 := Lib.hid (thenBelow B2.out (below_regrown w2 dq osq))
    generalize Sort.grow (redrawn w2 dq) osq = w3 at B3 ⊢
    clear d0 d1 cV hc
    go_wp2
    go_ret
    exact ⟨ret_bool (by first | (rw [HB.out]; done) | (rw [HB.out]; simp; done) | (rw [HB.out]; simp; omega)), B3.out⟩
  | false =>
    rw [e] at cV
    have HB := Lib.hid (has_out f r n e)
    clear e
    go_wp2
    refine wp_region_quiet_below (by kernel_rfl) (by kernel_rfl) ?_
    quiet_step (fail)
    quiet_step (exact cV _ _)
    repeat (quiet_step (fail))
    refine wpQuiet_nil ?_
    rintro _ ⟨⟨dq, osq⟩, rfl⟩
    have B3 := Lib.hid (thenBelow B2.out (below_regrown w2 dq osq))
    generalize Sort.grow (redrawn w2 dq) osq = w3 at B3 ⊢
    clear d0 d1 cV
    go_wp2
    go_ret
    exact ⟨ret_bool (by rw [HB.out]), B3.out⟩

set_option maxHeartbeats 1000000 in
set_option maxRecDepth 100000 in
theorem with_is (f : Nat → Int) (r n : Int) (w : World) : Calls Tryd.prog 31 #[.agg (vf f), .agg (dcs r n)] w (RetVec w (withF f r n)) := by
  go_enter Tryd.func31, Tryd.ntmps31
  go_wp2_with (refine wpList_vbox vecI rfl _ rfl f rfl ?_)
  intro gv w1 lv rv hb1
  have B1 := Lib.hid hb1; have RV1 := Lib.hid rv
  clear hb1 rv
  go_wp2_with (refine wpList_gbox rfl _ rfl (dcs r n) rfl ?_)
  intro gd w2 ld hD hb2
  have B2 := Lib.hid (thenBelow B1.out hb2); have RV2 := Lib.hid (RV1.out.later hb2)
  have D2 := Lib.hid ((cell_of_row _ gd 0 _ _ _ hD).trans (show _ = some (.int .i64 r) from rfl))
  have E2 := Lib.hid ((cell_of_row _ gd 1 _ _ _ hD).trans (show _ = some (.int .i64 n) from rfl))
  clear hD hb2
  go_wp2_with (refine wpList_valloc vecI zeroV rfl rfl ?_)
  intro gr w3 lr rr hb3
  have B3 := Lib.hid (thenBelow B2.out hb3); have RV3 := Lib.hid (RV2.out.later hb3); have RR3 := Lib.hid rr
  have D3 := Lib.hid ((hb3.cell (p := ⟨gd, 0, none⟩) (World.block_lt_of_cell? _ _ D2.out)).trans D2.out)
  have E3 := Lib.hid ((hb3.cell (p := ⟨gd, 1, none⟩) (World.block_lt_of_cell? _ _ E2.out)).trans E2.out)
  have hvr : gv < gr := Nat.lt_of_lt_of_le RV2.out.lt lr
  have lwr := Nat.le_trans B2.out.size lr
  have lwv : w.heap.size ≤ gv := lv
  have VA := Lib.hid (valid_is r n w3)
  clear hb3 rr
  have d0 := D3.out; have d1 := E3.out
  go_wp2_with fail
  refine VA.out.mono ?_
  rintro e w4 ⟨rfl, hb4⟩
  have B4 := Lib.hid (thenBelow B3.out hb4); have RV4 := Lib.hid (RV3.out.later hb4); have RR4 := Lib.hid (RR3.out.later hb4)
  have D4 := Lib.hid ((hb4.cell (p := ⟨gd, 0, none⟩) (World.block_lt_of_cell? _ _ D3.out)).trans D3.out)
  have E4 := Lib.hid ((hb4.cell (p := ⟨gd, 1, none⟩) (World.block_lt_of_cell? _ _ E3.out)).trans E3.out)
  clear hb4 VA d0 d1
  cases e : vldB r n with
  | true =>
    have hv := (vld_iff r n).1 e
    obtain ⟨i, rfl⟩ : ∃ i : Nat, r = (i : Int) := ⟨r.toNat, by omega⟩
    have HB := Lib.hid (with_in f i n e)
    have hc := cell_regrown (RV4.out.cell i (by omega))
    have d0 := cell_regrown D4.out; have d1 := cell_regrown E4.out
    have hi64 : (i : Int) < 64 := by omega
    clear e hv
    go_wp2
    refine wp_region_below_tail 10 (by kernel_rfl) (by kernel_rfl) ?_
    simp only [List.take_succ_cons, List.take_zero, List.drop_succ_cons, List.drop_zero]
    repeat (quiet_step (fail))
    refine wpQuiet_nil ?_
    rintro _ ⟨⟨dq, osq⟩, rfl⟩
    have hb5 := below_regrown w4 dq osq
    have B5 := Lib.hid (thenBelow B4.out hb5); have RV5 := Lib.hid (RV4.out.later hb5); have RR5 := Lib.hid (RR4.out.later hb5)
    generalize Sort.grow (redrawn w4 dq) osq = w5 at hb5 B5 RV5 RR5 ⊢
    clear d0 d1 hc hb5
    have hc5 := RV5.out.cell i (by omega)
    have hf5 := RV5.out.free i
    have hS := Lib.hid (RV5.out.set i (max (f i) n))
    have hG := Lib.hid (grown_cell w5 gv i (.int .i64 (max (f i) n)))
    have B6 := Lib.hid (B5.out.trans (grown_below hG.out B5.out.size lwv)); have RR6 := Lib.hid (RR5.out.kept hG.out (by simp; omega))
    go_wp2_with (first | refine wpList_vload vecI rfl _ rfl gv rfl _ _ hS.out ?_ | refine wpList_vstore vecI rfl _ _ rfl gr rfl _ rfl _ _ RR6.out ?_)
    intro w7 r7 g7 _
    have R7 := Lib.hid r7; have B7 := Lib.hid (B6.out.trans (grown_below g7 B6.out.size lwr))
    clear r7 g7
    go_wp2
    exact vec_ret vecI rfl rfl rfl R7.out (fun j _ => by rw [HB.out]) B7.out
  | false =>
    have HB := Lib.hid (with_out f r n e)
    clear e
    go_wp2_with (first | refine wpList_vload vecI rfl _ rfl gv rfl _ _ RV4.out ?_ | refine wpList_vstore vecI rfl _ _ rfl gr rfl _ rfl _ _ RR4.out ?_)
    intro w7 r7 g7 _
    have R7 := Lib.hid r7; have B7 := Lib.hid (B4.out.trans (grown_below g7 B4.out.size lwr))
    clear r7 g7
    go_wp2
    exact vec_ret vecI rfl rfl rfl R7.out (fun j _ => by rw [HB.out]) B7.out

theorem vset_same (f : Nat → Int) (i : Nat) (x : Int) (h : f i = x) : vset f i x = f := by
  funext j
  unfold vset
  by_cases e : j = i
  · subst e; simp [h]
  · simp [e]
set_option maxHeartbeats 1000000 in
set_option maxRecDepth 100000 in
theorem refWith_is (f : Nat → Int) (r n : Int) (w : World) : Calls Tryd.prog 32 #[.agg (vf f), .agg (dcs r n)] w (RetVec w (withF f r n)) := by
  go_enter Tryd.func32, Tryd.ntmps32
  go_wp2_with (refine wpList_vbox vecI rfl _ rfl f rfl ?_)
  intro gv w1 lv rv hb1
  have B1 := Lib.hid hb1; have RV1 := Lib.hid rv
  clear hb1 rv
  go_wp2_with (refine wpList_gbox rfl _ rfl (dcs r n) rfl ?_)
  intro gd w2 ld hD hb2
  have B2 := Lib.hid (thenBelow B1.out hb2); have RV2 := Lib.hid (RV1.out.later hb2)
  have D2 := Lib.hid ((cell_of_row _ gd 0 _ _ _ hD).trans (show _ = some (.int .i64 r) from rfl))
  have E2 := Lib.hid ((cell_of_row _ gd 1 _ _ _ hD).trans (show _ = some (.int .i64 n) from rfl))
  clear hD hb2
  go_wp2_with (refine wpList_valloc vecI zeroV rfl rfl ?_)
  intro gr w4 lr rr hb3
  have B4 := Lib.hid (thenBelow B2.out hb3); have RV4 := Lib.hid (RV2.out.later hb3); have RR4 := Lib.hid rr
  have D4 := Lib.hid ((hb3.cell (p := ⟨gd, 0, none⟩) (World.block_lt_of_cell? _ _ D2.out)).trans D2.out)
  have E4 := Lib.hid ((hb3.cell (p := ⟨gd, 1, none⟩) (World.block_lt_of_cell? _ _ E2.out)).trans E2.out)
  have hvr : gv < gr := Nat.lt_of_lt_of_le RV2.out.lt lr
  have hvd : gv < gd := Nat.lt_of_lt_of_le RV1.out.lt ld
  have lwr := Nat.le_trans B2.out.size lr
  have lwv : w.heap.size ≤ gv := lv
  have cV := quiet_call (w := w4) (refValid_is r n)
  unfold dcs at cV
  have d0 := cell_regrown D4.out; have d1 := cell_regrown E4.out
  clear hb3 rr
  have key : (vldB r n = false ∧ withF f r n = f) ∨ ∃ i : Nat, r = (i : Int) ∧ i < 64 ∧ vldB i n = true ∧ ((f i < n ∧ withF f i n = vset f i n) ∨ (¬ f i < n ∧ withF f i n = f)) := by
    cases e : vldB r n with
    | false => exact .inl ⟨rfl, with_out f r n e⟩
    | true =>
      have hv := (vld_iff r n).1 e
      refine .inr ⟨r.toNat, by omega, by omega, by rw [Int.toNat_of_nonneg hv.1]; exact e, ?_⟩
      have e2 := with_in f r.toNat n (by rw [Int.toNat_of_nonneg hv.1]; exact e)
      by_cases h : f r.toNat < n
      · exact .inl ⟨h, by rw [e2, show max (f r.toNat) n = n by omega]⟩
      · exact .inr ⟨h, by rw [e2, vset_same _ _ _ (by omega)]⟩
  rcases key with ⟨e, hB⟩ | ⟨i, rfl, hi, e, ⟨hlt, hB⟩ | ⟨hlt, hB⟩⟩
  · rw [e] at cV
    have HB := Lib.hid hB
    clear e hB
    go_wp2
    refine wp_region_quiet_below (by kernel_rfl) (by kernel_rfl) ?_
    quiet_step (fail)
    quiet_step (exact cV _ _)
    repeat (quiet_step (fail))
    refine wpQuiet_nil ?_
    rintro _ ⟨⟨dq, osq⟩, rfl⟩
    have hb5 := below_regrown w4 dq osq
    have B5 := Lib.hid (thenBelow B4.out hb5); have RV5 := Lib.hid (RV4.out.later hb5); have RR5 := Lib.hid (RR4.out.later hb5)
    generalize Sort.grow (redrawn w4 dq) osq = w5 at hb5 B5 RV5 RR5 ⊢
    clear d0 d1 cV hb5
    go_wp2_with (first | refine wpList_vload vecI rfl _ rfl gv rfl _ _ RV5.out ?_ | refine wpList_vstore vecI rfl _ _ rfl gr rfl _ rfl _ _ RR5.out ?_)
    intro w7 r7 g7 _
    have R7 := Lib.hid r7; have B7 := Lib.hid (B5.out.trans (grown_below g7 B5.out.size lwr))
    clear r7 g7
    go_wp2
    exact vec_ret vecI rfl rfl rfl R7.out (fun j _ => by rw [HB.out]) B7.out
  · rw [e] at cV
    have HB := Lib.hid hB
    have hi64 : (i : Int) < 64 := by omega
    have hc := cell_regrown (RV4.out.cell i hi)
    have VS := Lib.hid (show vset f i n = vset f i n from rfl)
    generalize hfi : f i = x at hc hlt
    clear e hB hfi
    go_wp2
    refine wp_region_quiet_below (by kernel_rfl) (by kernel_rfl) ?_
    quiet_step (fail)
    quiet_step (exact cV _ _)
    repeat (quiet_step (fail))
    refine wpQuiet_nil ?_
    rintro _ ⟨⟨dq, osq⟩, rfl⟩
    have hb5 := below_regrown w4 dq osq
    have B5 := Lib.hid (thenBelow B4.out hb5); have RV5 := Lib.hid (RV4.out.later hb5); have RR5 := Lib.hid (RR4.out.later hb5)
    have d05 := (hb5.cell (p := ⟨gd, 0, none⟩) (World.block_lt_of_cell? _ _ D4.out)).trans D4.out
    have d15 := (hb5.cell (p := ⟨gd, 1, none⟩) (World.block_lt_of_cell? _ _ E4.out)).trans E4.out
    generalize Sort.grow (redrawn w4 dq) osq = w5 at hb5 B5 RV5 RR5 d05 d15 ⊢
    clear d0 d1 cV hb5 hc
    have hc5 := RV5.out.cell i hi
    have hf5 := RV5.out.free i
    have hS := Lib.hid (RV5.out.set i n)
    have hG := Lib.hid (grown_cell w5 gv i (.int .i64 n))
    have B6 := Lib.hid (B5.out.trans (grown_below hG.out B5.out.size lwv)); have RR6 := Lib.hid (RR5.out.kept hG.out (by simp; omega))
    go_wp2_with (first | refine wpList_vload vecI rfl _ rfl gv rfl _ _ hS.out ?_ | refine wpList_vstore vecI rfl _ _ rfl gr rfl _ rfl _ _ RR6.out ?_)
    intro w7 r7 g7 _
    have R7 := Lib.hid r7; have B7 := Lib.hid (B6.out.trans (grown_below g7 B6.out.size lwr))
    clear r7 g7
    go_wp2
    exact vec_ret vecI rfl rfl rfl R7.out (fun j _ => by rw [HB.out]) B7.out
  · rw [e] at cV
    have HB := Lib.hid hB
    have hi64 : (i : Int) < 64 := by omega
    have hc := cell_regrown (RV4.out.cell i hi)
    generalize hfi : f i = x at hc hlt
    clear e hB hfi
    go_wp2
    refine wp_region_quiet_below (by kernel_rfl) (by kernel_rfl) ?_
    quiet_step (fail)
    quiet_step (exact cV _ _)
    repeat (quiet_step (fail))
    refine wpQuiet_nil ?_
    rintro _ ⟨⟨dq, osq⟩, rfl⟩
    have hb5 := below_regrown w4 dq osq
    have B5 := Lib.hid (thenBelow B4.out hb5); have RV5 := Lib.hid (RV4.out.later hb5); have RR5 := Lib.hid (RR4.out.later hb5)
    generalize Sort.grow (redrawn w4 dq) osq = w5 at hb5 B5 RV5 RR5 ⊢
    clear d0 d1 cV hb5 hc
    go_wp2_with (first | refine wpList_vload vecI rfl _ rfl gv rfl _ _ RV5.out ?_ | refine wpList_vstore vecI rfl _ _ rfl gr rfl _ rfl _ _ RR5.out ?_)
    intro w7 r7 g7 _
    have R7 := Lib.hid r7; have B7 := Lib.hid (B5.out.trans (grown_below g7 B5.out.size lwr))
    clear r7 g7
    go_wp2
    exact vec_ret vecI rfl rfl rfl R7.out (fun j _ => by rw [HB.out]) B7.out
end Go.Proofs.YtjmglgcifekhgaaDoor
/- Which vectors may be; a vector within bounds. -/
namespace Go.Proofs.YtjmglgcifekhgaaDoor
open Go Go.RowKit
set_option linter.unusedVariables false

def clampF (f : Nat → Int) : Nat → Int := fun i => min (max (f i) 0) 1073741824
set_option maxHeartbeats 1000000 in
set_option maxRecDepth 100000 in
theorem inBounds_is (f : Nat → Int) (w : World) : Calls Tryd.prog 61 #[.agg (vf f)] w (RetVec w (clampF f)) := by
  go_enter Tryd.func61, Tryd.ntmps61
  go_wp2_with (refine wpList_vbox vecI rfl _ rfl f rfl ?_)
  intro ga w1 la ra hb1
  have B1 := Lib.hid hb1; have RA1 := Lib.hid ra
  clear hb1 ra
  go_wp2_with (refine wpList_valloc vecI zeroV rfl rfl ?_)
  intro gr w3 lr rr hb3
  have B3 := Lib.hid (thenBelow B1.out hb3); have RA3 := Lib.hid (RA1.out.later hb3); have RR3 := Lib.hid rr
  have har : ga < gr := Nat.lt_of_lt_of_le RA1.out.lt lr
  have hlow := Nat.le_trans B1.out.size lr
  have hwa : w.heap.size ≤ ga := la
  clear hb3 rr
  go_wp2_with (refine wpList_vload vecI rfl _ rfl ga rfl _ f RA3.out ?_)
  go_wp2
  go_loopw [6] (fun i wr => ∃ k : Nat, k ≤ 64 ∧ i = .int .i64 k ∧ Row wr ga 23 (upto k (clampF f) f) ∧ Row wr gr 23 (fun _ => 0) ∧ Below w.heap.size w wr) (fun i _ => 64 - (intOf i).toNat)
  case atStart => exact ⟨0, by omega, rfl, by rw [upto_zero]; exact RA3.out, RR3.out, B3.out⟩
  case round =>
    obtain ⟨k, hk, rfl, hra, hrr, hb⟩ := hrel
    have RA := Lib.hid hra; have RR := Lib.hid hrr; have B := Lib.hid hb
    clear hra hrr hb
    by_cases hlt : k < 64
    · have hi := vecI.index f .i64 k k rfl hlt
      have hc := RA.out.cell k hlt
      have hfr := RA.out.free k
      have hkI : (k : Int) < 64 := by omega
      have hS : Hid (Row (wr.setCell ⟨ga, k, none⟩ (.int .i64 (min (max (f k) 0) 1073741824))) ga 23 (upto (k + 1) (clampF f) f)) := by
        show Row _ _ _ _
        rw [← upto_set]
        exact RA.out.set k (clampF f k)
      have hG := Lib.hid (grown_cell wr ga k (.int .i64 (min (max (f k) 0) 1073741824)))
      generalize f k = x at hi hS hG
      go_wp2
      go_roundw
      case rel => exact ⟨k + 1, by omega, by go_num, hS.out, RR.out.kept hG.out (by simp; omega), B.out.trans (grown_below hG.out B.out.size hwa)⟩
      case measure => simp [intOf]; omega
    · obtain rfl : k = 64 := by omega
      have RE := Lib.hid (RA.out.congr (upto_all _ _))
      clear RA hk
      go_wp2_with (first | refine wpList_vload vecI rfl _ rfl ga rfl _ _ RE.out ?_ | refine wpList_vstore vecI rfl _ _ rfl gr rfl _ rfl _ _ RR.out ?_)
      intro w5 r5 g5 _
      have R5 := Lib.hid r5; have B5 := Lib.hid (B.out.trans (grown_below g5 B.out.size hlow))
      clear r5 g5
      go_wp2
      exact vec_ret vecI rfl rfl rfl R5.out (fun _ _ => rfl) B5.out
def goodB (f : Nat → Int) : Bool := veq f (clampF f)
theorem good_iff (f : Nat → Int) : goodB f = true ↔ ∀ i, i < 64 → 0 ≤ f i ∧ f i ≤ 1073741824 := by
  unfold goodB clampF
  rw [veq_iff]
  exact ⟨fun h i hi => by have := h i hi; omega, fun h i hi => by have := h i hi; omega⟩
theorem good_no {f : Nat → Int} (i : Nat) (hi : i < 64) (h : f i < 0 ∨ 1073741824 < f i) : goodB f = false := by
  cases e : goodB f with
  | false => rfl
  | true => exact absurd ((good_iff f).1 e i hi) (by omega)
set_option maxHeartbeats 1000000 in
set_option maxRecDepth 100000 in
theorem good_is (f : Nat → Int) (w : World) : Calls Tryd.prog 36 #[.agg (vf f)] w (RetBool w (goodB f)) := by
  have HE := vecI.eql f (clampF f)
  have HE2 := vecI.equalIn 9998 f (clampF f)
  have HG : Hid (goodB f = veq f (clampF f)) := rfl
  generalize veq f (clampF f) = r at HE HE2 HG
  go_enter Tryd.func36, Tryd.ntmps36
  go_wp2_with (refine wpList_vbox vecI rfl _ rfl f rfl ?_)
  intro ga w2 la ra hb1
  have B2 := Lib.hid hb1; have RA2 := Lib.hid ra
  clear hb1 ra
  have cI := quiet_call (w := w2) (inBounds_is f)
  go_wp2
  refine wp_region_quiet_below (by kernel_rfl) (by kernel_rfl) ?_
  refine wpQuiet_vload vecI rfl _ rfl ga rfl _ f (fun _ h => RA2.out.quiet h) ?_
  refine wpQuiet_vload vecI rfl _ rfl ga rfl _ f (fun _ h => RA2.out.quiet h) ?_
  quiet_step (exact cI _ _)
  repeat (quiet_step (fail))
  refine wpQuiet_nil ?_
  intro _ hw'
  obtain ⟨⟨dq, osq⟩, hw''⟩ := hw'
  subst hw''
  go_wp2
  go_ret
  exact ⟨by rw [HG.out]; rfl, B2.out.trans ((below_regrown w2 dq osq).mono B2.out.size)⟩
set_option maxHeartbeats 1000000 in
set_option maxRecDepth 100000 in
theorem refGood_is (f : Nat → Int) (w : World) : Calls Tryd.prog 19 #[.agg (vf f)] w (RetBool w (goodB f)) := by
  go_enter Tryd.func19, Tryd.ntmps19
  go_wp2_with (refine wpList_vbox vecI rfl _ rfl f rfl ?_)
  intro ga w2 la ra hb1
  have B2 := Lib.hid hb1; have RA2 := Lib.hid ra
  clear hb1 ra
  go_wp2_with (refine wpList_vload vecI rfl _ rfl ga rfl _ f RA2.out ?_)
  go_wp2
  go_loop [6] (fun i => ∃ k : Nat, k ≤ 64 ∧ i = .int .i64 k ∧ ∀ i, i < k → 0 ≤ f i ∧ f i ≤ 1073741824) (fun i => 64 - (intOf i).toNat)
  case atStart => exact ⟨0, by omega, rfl, fun i h => by omega⟩
  case round =>
    obtain ⟨k, hk, rfl, hle⟩ := hrel
    have LE := Lib.hid hle
    clear hle
    by_cases hlt : k < 64
    · have hi := vecI.index f .i64 k k rfl hlt
      have hkI : (k : Int) < 64 := by omega
      rcases (show f k < 0 ∨ (0 ≤ f k ∧ 1073741824 < f k) ∨ (0 ≤ f k ∧ f k ≤ 1073741824) by omega) with h1 | ⟨h1, h2⟩ | ⟨h1, h2⟩
      case' inl =>
        have NO := Lib.hid (good_no k hlt (.inl h1))
        generalize f k = y at hi h1
      case' inr.inl =>
        have NO := Lib.hid (good_no k hlt (.inr h2))
        generalize f k = y at hi h1 h2
      case' inr.inr =>
        have hS : Hid (∀ i, i < k + 1 → 0 ≤ f i ∧ f i ≤ 1073741824) := by
          intro i h
          by_cases e : i = k
          · subst e; omega
          · exact LE.out i (by omega)
        generalize f k = y at hi h1 h2
        go_wp2
        go_round
        case rel => exact ⟨k + 1, by omega, by go_num, hS.out⟩
        case measure => simp [intOf]; omega
      all_goals
        go_wp2
        go_ret
        exact ⟨by rw [NO.out]; rfl, B2.out⟩
    · obtain rfl : k = 64 := by omega
      have YES := Lib.hid ((good_iff f).2 LE.out)
      go_wp2
      go_ret
      exact ⟨by rw [YES.out]; rfl, B2.out⟩
open Go

abbrev Dt := Int × Int
def vl (d : Dt) : Bool := vldB d.1 d.2
def ltD (a b : Dt) : Bool := lessD a.1 a.2 b.1 b.2
theorem ltD_iff (a b : Dt) : ltD a b = true ↔ a.1 < b.1 ∨ a.1 = b.1 ∧ a.2 < b.2 := by simp [ltD, lessD]
theorem vl_iff (d : Dt) : vl d = true ↔ 0 ≤ d.1 ∧ d.1 < 64 ∧ 1 ≤ d.2 ∧ d.2 ≤ 1073741824 := vld_iff d.1 d.2
theorem ltD_irrefl (a : Dt) : ltD a a = false := by rw [← Bool.not_eq_true, ltD_iff]; omega
theorem ltD_trans {a b c : Dt} (h : ltD a b = true) (k : ltD b c = true) : ltD a c = true := by rw [ltD_iff] at *; omega
theorem ltD_or (a b : Dt) (h : ltD a b = false) (k : ltD b a = false) : a = b := by
  have h' : ¬ (a.1 < b.1 ∨ a.1 = b.1 ∧ a.2 < b.2) := fun e => by rw [(ltD_iff a b).2 e] at h; cases h
  have k' : ¬ (b.1 < a.1 ∨ b.1 = a.1 ∧ b.2 < a.2) := fun e => by rw [(ltD_iff b a).2 e] at k; cases k
  exact Prod.ext (by omega) (by omega)
/-- in order, each once -/
def Rises (l : List Dt) : Prop := l.Pairwise fun a b => ltD a b = true
theorem rises_eq : ∀ {l l' : List Dt}, Rises l → Rises l' → (∀ d, d ∈ l ↔ d ∈ l') → l = l'
  | [], [], _, _, _ => rfl
  | [], b :: l', _, _, h => by have := (h b).2 (by simp); cases this
  | a :: l, [], _, _, h => by have := (h a).1 (by simp); cases this
  | a :: l, b :: l', h1, h2, h => by
    obtain ⟨p1, p2⟩ := List.pairwise_cons.1 h1
    obtain ⟨q1, q2⟩ := List.pairwise_cons.1 h2
    have hab : a = b := by
      rcases List.mem_cons.1 ((h a).1 (by simp)) with e | e
      · exact e
      · rcases List.mem_cons.1 ((h b).2 (by simp)) with e2 | e2
        · exact e2.symm
        · have := ltD_trans (q1 a e) (p1 b e2)
          rw [ltD_irrefl] at this; cases this
    subst hab
    congr 1
    refine rises_eq p2 q2 fun d => ?_
    constructor
    · intro hd
      rcases List.mem_cons.1 ((h d).1 (by simp [hd])) with e | e
      · have := p1 d hd; rw [e, ltD_irrefl] at this; cases this
      · exact e
    · intro hd
      rcases List.mem_cons.1 ((h d).2 (by simp [hd])) with e | e
      · have := q1 d hd; rw [e, ltD_irrefl] at this; cases this
      · exact e

/-- a context in its one form: the vector G and the dots o behind it, of the vector F and the dots l -/
structure IsTidy (F : Nat → Int) (l : List Dt) (G : Nat → Int) (o : List Dt) : Prop where
  base : ∀ i, i < 64 → clampF F i ≤ G i
  reach : ∀ i, i < 64 → ∀ k : Int, clampF F i < k → k ≤ G i → ((i : Int), k) ∈ l ∧ vl ((i : Int), k) = true
  closed : ∀ d ∈ l, vl d = true → d.2 ≠ G d.1.toNat + 1
  rises : Rises o
  mem : ∀ d, d ∈ o ↔ (d ∈ l ∧ vl d = true ∧ G d.1.toNat < d.2)
theorem clampF_in (F : Nat → Int) (i : Nat) : 0 ≤ clampF F i ∧ clampF F i ≤ 1073741824 := by unfold clampF; omega
theorem IsTidy.le {F F' : Nat → Int} {l l' : List Dt} {G G' : Nat → Int} {o o' : List Dt} (h : IsTidy F l G o) (h' : IsTidy F' l' G' o') (hF : ∀ i, i < 64 → clampF F i = clampF F' i) (hl : ∀ d, vl d = true → (d ∈ l ↔ d ∈ l')) (i : Nat) (hi : i < 64) : G' i ≤ G i := by
  by_cases hle : G' i ≤ G i
  · exact hle
  · exfalso
    have hb := h.base i hi
    rw [hF i hi] at hb
    obtain ⟨h1, h2⟩ := h'.reach i hi (G i + 1) (by omega) (by omega)
    have := h.closed _ ((hl _ h2).2 h1) h2
    simp at this
theorem IsTidy.unique {F F' : Nat → Int} {l l' : List Dt} {G G' : Nat → Int} {o o' : List Dt} (h : IsTidy F l G o) (h' : IsTidy F' l' G' o') (hF : ∀ i, i < 64 → clampF F i = clampF F' i) (hl : ∀ d, vl d = true → (d ∈ l ↔ d ∈ l')) : (∀ i, i < 64 → G i = G' i) ∧ o = o' := by
  have e : ∀ i, i < 64 → G i = G' i := fun i hi => by
    have h1 := h.le h' hF hl i hi
    have h2 := h'.le h (fun i hi => (hF i hi).symm) (fun d hd => (hl d hd).symm) i hi
    omega
  refine ⟨e, rises_eq h.rises h'.rises fun d => ?_⟩
  rw [h.mem, h'.mem]
  constructor
  · rintro ⟨h1, h2, h3⟩
    have hv := (vl_iff d).1 h2
    exact ⟨(hl d h2).1 h1, h2, by rw [← e _ (by omega)]; exact h3⟩
  · rintro ⟨h1, h2, h3⟩
    have hv := (vl_iff d).1 h2
    exact ⟨(hl d h2).2 h1, h2, by rw [e _ (by omega)]; exact h3⟩
/-- does a context have a dot? -/
def knowsB (F : Nat → Int) (l : List Dt) (d : Dt) : Bool := hasB F d.1 d.2 || (vl d && l.contains d)
theorem has_iff (F : Nat → Int) (d : Dt) : hasB F d.1 d.2 = true ↔ vl d = true ∧ d.2 ≤ F d.1.toNat := by simp [hasB, vl]
theorem has_clamp (F : Nat → Int) (d : Dt) : hasB (clampF F) d.1 d.2 = hasB F d.1 d.2 := by
  rw [Bool.eq_iff_iff, has_iff, has_iff]
  constructor
  · rintro ⟨h, k⟩; have := (vl_iff d).1 h; exact ⟨h, by unfold clampF at k; omega⟩
  · rintro ⟨h, k⟩; have := (vl_iff d).1 h; exact ⟨h, by unfold clampF; omega⟩
theorem knows_iff (F : Nat → Int) (l : List Dt) (d : Dt) : knowsB F l d = true ↔ vl d = true ∧ (d.2 ≤ F d.1.toNat ∨ d ∈ l) := by
  unfold knowsB
  rw [Bool.or_eq_true, has_iff, Bool.and_eq_true, List.contains_iff_mem]
  constructor
  · rintro (⟨h, k⟩ | ⟨h, k⟩)
    · exact ⟨h, .inl k⟩
    · exact ⟨h, .inr k⟩
  · rintro ⟨h, k | k⟩
    · exact .inl ⟨h, k⟩
    · exact .inr ⟨h, k⟩
theorem IsTidy.knows {F : Nat → Int} {l : List Dt} {G : Nat → Int} {o : List Dt} (h : IsTidy F l G o) (d : Dt) : knowsB G o d = knowsB F l d := by
  rw [Bool.eq_iff_iff, knows_iff, knows_iff]
  constructor
  · rintro ⟨hv, hk⟩
    refine ⟨hv, ?_⟩
    have hvi := (vl_iff d).1 hv
    rcases hk with hk | hk
    · by_cases hc : d.2 ≤ clampF F d.1.toNat
      · left; unfold clampF at hc; omega
      · right
        have := (h.reach d.1.toNat (by omega) d.2 (by omega) hk).1
        rwa [show ((d.1.toNat : Int), d.2) = d from Prod.ext (by simp; omega) rfl] at this
    · exact .inr ((h.mem d).1 hk).1
  · rintro ⟨hv, hk⟩
    refine ⟨hv, ?_⟩
    have hvi := (vl_iff d).1 hv
    have hb := h.base d.1.toNat (by omega)
    rcases hk with hk | hk
    · left; unfold clampF at hb; omega
    · by_cases hg : d.2 ≤ G d.1.toNat
      · exact .inl hg
      · exact .inr ((h.mem d).2 ⟨hk, hv, by omega⟩)
theorem IsTidy.good {F : Nat → Int} {l : List Dt} {G : Nat → Int} {o : List Dt} (h : IsTidy F l G o) (i : Nat) (hi : i < 64) : 0 ≤ G i ∧ G i ≤ 1073741824 := by
  have hb := h.base i hi
  have hc := clampF_in F i
  refine ⟨by omega, ?_⟩
  by_cases hle : G i ≤ 1073741824
  · exact hle
  · have := (vl_iff _).1 (h.reach i hi (G i) (by omega) (by omega)).2
    simp at this; omega
/-- what is in its one form stays -/
theorem IsTidy.again {F : Nat → Int} {l : List Dt} {G : Nat → Int} {o : List Dt} (h : IsTidy F l G o) : IsTidy G o G o where
  base i hi := by have := h.good i hi; unfold clampF; omega
  reach i hi k h1 h2 := by have := h.good i hi; unfold clampF at h1; omega
  closed d hd hv := h.closed d ((h.mem d).1 hd).1 hv
  rises := h.rises
  mem d := by
    constructor
    · intro hd; exact ⟨hd, ((h.mem d).1 hd).2⟩
    · rintro ⟨hd, _⟩; exact hd
/-- a part of what is in it, joined once more, is nothing new -/
theorem IsTidy.within {F : Nat → Int} {l : List Dt} {G : Nat → Int} {o : List Dt} (h : IsTidy F l G o) {A : Nat → Int} {m : List Dt} (hA : ∀ i, i < 64 → clampF A i ≤ G i) (hm : ∀ d ∈ m, vl d = true → d ∈ l) {Z : Nat → Int} (hZ : ∀ i, i < 64 → Z i = max (G i) (A i)) {k : List Dt} (hk : ∀ d, vl d = true → (d ∈ k ↔ d ∈ o ∨ d ∈ m)) : IsTidy Z k G o where
  base i hi := by have := h.good i hi; have := hA i hi; unfold clampF at *; rw [hZ i hi]; omega
  reach i hi n h1 h2 := by have := h.good i hi; have := hA i hi; unfold clampF at *; rw [hZ i hi] at h1; omega
  closed d hd hv := by
    rcases (hk d hv).1 hd with e | e
    · exact h.closed d ((h.mem d).1 e).1 hv
    · exact h.closed d (hm d e hv) hv
  rises := h.rises
  mem d := by
    constructor
    · intro hd
      have := (h.mem d).1 hd
      exact ⟨(hk d this.2.1).2 (.inl hd), this.2⟩
    · rintro ⟨h1, h2, h3⟩
      rcases (hk d h2).1 h1 with e | e
      · exact e
      · exact (h.mem d).2 ⟨hm d e h2, h2, h3⟩

/-- how far a row in order has been taken in -/
structure Upd (F : Nat → Int) (p : List Dt) (G : Nat → Int) (o : List Dt) : Prop where
  base : ∀ i, i < 64 → clampF F i ≤ G i
  reach : ∀ i, i < 64 → ∀ k : Int, clampF F i < k → k ≤ G i → ((i : Int), k) ∈ p ∧ vl ((i : Int), k) = true
  out : ∀ d ∈ o, d ∈ p ∧ vl d = true ∧ G d.1.toNat + 1 < d.2
  all : ∀ d ∈ p, vl d = true → d.2 ≤ G d.1.toNat ∨ d ∈ o
  rises : Rises o
theorem Upd.start (F : Nat → Int) : Upd F [] (clampF F) [] where
  base i hi := Int.le_refl _
  reach i hi k h1 h2 := by omega
  out d hd := by cases hd
  all d hd := by cases hd
  rises := List.Pairwise.nil
section
variable {F : Nat → Int} {p : List Dt} {G : Nat → Int} {o : List Dt} {d : Dt}
theorem Upd.skip (h : Upd F p G o) (hs : vl d = false ∨ d.2 ≤ G d.1.toNat) : Upd F (p ++ [d]) G o where
  base := h.base
  reach i hi k h1 h2 := by have := h.reach i hi k h1 h2; exact ⟨by simp [this.1], this.2⟩
  out x hx := by have := h.out x hx; exact ⟨by simp [this.1], this.2⟩
  all x hx hv := by
    rcases List.mem_append.1 hx with e | e
    · exact h.all x e hv
    · obtain rfl := List.mem_singleton.1 e
      rcases hs with hs | hs
      · rw [hs] at hv; cases hv
      · exact .inl hs
  rises := h.rises
theorem Upd.more (h : Upd F p G o) (hp : ∀ x ∈ p, ltD x d = true) (hv : vl d = true) (hn : d.2 = G d.1.toNat + 1) : Upd F (p ++ [d]) (vset G d.1.toNat d.2) o where
  base i hi := by
    have := h.base i hi
    unfold vset; split
    · rename_i e; subst e; omega
    · exact this
  reach i hi k h1 h2 := by
    have hvi := (vl_iff d).1 hv
    unfold vset at h2
    split at h2
    · rename_i e
      by_cases hk : k ≤ G i
      · have := h.reach i hi k h1 hk; exact ⟨by simp [this.1], this.2⟩
      · have e2 : ((i : Int), k) = d := Prod.ext (by simp; omega) (by simp; subst e; omega)
        rw [e2]; exact ⟨by simp, hv⟩
    · have := h.reach i hi k h1 h2; exact ⟨by simp [this.1], this.2⟩
  out x hx := by
    obtain ⟨a, b, c⟩ := h.out x hx
    refine ⟨by simp [a], b, ?_⟩
    unfold vset
    split
    · rename_i e
      have hl := (ltD_iff x d).1 (hp x a)
      have hvi := (vl_iff d).1 hv
      have hvx := (vl_iff x).1 b
      rw [e] at c
      omega
    · exact c
  all x hx hvx := by
    rcases List.mem_append.1 hx with e | e
    · rcases h.all x e hvx with e2 | e2
      · left
        unfold vset
        split
        · rename_i e3; rw [e3] at e2; omega
        · exact e2
      · exact .inr e2
    · obtain rfl := List.mem_singleton.1 e
      left; unfold vset; simp
  rises := h.rises
theorem Upd.far (h : Upd F p G o) (hp : ∀ x ∈ p, ltD x d = true) (hv : vl d = true) (hn : G d.1.toNat < d.2) (hn2 : d.2 ≠ G d.1.toNat + 1) : Upd F (p ++ [d]) G (o ++ [d]) where
  base := h.base
  reach i hi k h1 h2 := by have := h.reach i hi k h1 h2; exact ⟨by simp [this.1], this.2⟩
  out x hx := by
    rcases List.mem_append.1 hx with e | e
    · obtain ⟨a, b, c⟩ := h.out x e; exact ⟨by simp [a], b, c⟩
    · obtain rfl := List.mem_singleton.1 e
      exact ⟨by simp, hv, by omega⟩
  all x hx hvx := by
    rcases List.mem_append.1 hx with e | e
    · rcases h.all x e hvx with e2 | e2
      · exact .inl e2
      · exact .inr (by simp [e2])
    · obtain rfl := List.mem_singleton.1 e
      exact .inr (by simp)
  rises := by
    unfold Rises
    rw [List.pairwise_append]
    refine ⟨h.rises, List.pairwise_singleton _ _, fun a ha b hb => ?_⟩
    obtain rfl := List.mem_singleton.1 hb
    exact hp a (h.out a ha).1
theorem Upd.tidy (h : Upd F p G o) {l : List Dt} (hl : ∀ d, d ∈ p ↔ d ∈ l) : IsTidy F l G o where
  base := h.base
  reach i hi k h1 h2 := by have := h.reach i hi k h1 h2; exact ⟨(hl _).1 this.1, this.2⟩
  closed d hd hv := by
    intro e
    rcases h.all d ((hl d).2 hd) hv with e2 | e2
    · omega
    · have := (h.out d e2).2.2; omega
  rises := h.rises
  mem d := by
    constructor
    · intro hd
      obtain ⟨a, b, c⟩ := h.out d hd
      exact ⟨(hl d).1 a, b, by omega⟩
    · rintro ⟨a, b, c⟩
      rcases h.all d ((hl d).2 a) b with e | e
      · omega
      · exact e
end
theorem rises_take {L : List Dt} (h : Rises L) (k : Nat) (hk : k < L.length) : ∀ x ∈ L.take k, ltD x L[k] = true := by
  intro x hx
  obtain ⟨i, hi, rfl⟩ := List.getElem_of_mem hx
  simp only [List.length_take] at hi
  rw [List.getElem_take]
  exact List.pairwise_iff_getElem.1 h i k (by omega) hk (by omega)
theorem take_next (L : List Dt) (k : Nat) (hk : k < L.length) : L.take (k + 1) = L.take k ++ [L[k]] := by
  rw [List.take_add_one, List.getElem?_eq_getElem hk]; rfl

/-- neighbours that are one: once -/
def dedup : List Dt → List Dt
  | [] => []
  | [a] => [a]
  | a :: b :: r => if a = b then dedup (b :: r) else a :: dedup (b :: r)
theorem dedup_mem : ∀ (l : List Dt) (d : Dt), d ∈ dedup l ↔ d ∈ l
  | [], d => by simp [dedup]
  | [a], d => by simp [dedup]
  | a :: b :: r, d => by
    unfold dedup
    split
    · rename_i e; subst e
      rw [dedup_mem (a :: r) d]; simp
    · rw [List.mem_cons, dedup_mem (b :: r) d, List.mem_cons, List.mem_cons, List.mem_cons]
theorem dedup_rises : ∀ (l : List Dt), l.Pairwise (fun a b => ltD b a = false) → Rises (dedup l)
  | [], _ => by unfold dedup; exact List.Pairwise.nil
  | [a], _ => by unfold dedup; exact List.pairwise_singleton _ _
  | a :: b :: r, h => by
    obtain ⟨h1, h2⟩ := List.pairwise_cons.1 h
    have ih := dedup_rises (b :: r) h2
    unfold dedup
    split
    · exact ih
    · rename_i e
      refine List.pairwise_cons.2 ⟨fun x hx => ?_, ih⟩
      have hx' : x ∈ b :: r := (dedup_mem _ _).1 hx
      have hax := h1 x hx'
      have hab := h1 b (by simp)
      have lab : ltD a b = true := by
        cases hl : ltD a b with
        | true => rfl
        | false => exact absurd (ltD_or a b hl hab) e
      rcases List.mem_cons.1 hx' with rfl | hxr
      · exact lab
      · have hbx := (List.pairwise_cons.1 h2).1 x hxr
        cases hl : ltD b x with
        | true => exact ltD_trans lab hl
        | false =>
          obtain rfl := ltD_or b x hl hbx
          exact lab
end Go.Proofs.YtjmglgcifekhgaaDoor
/- Rows of dots in memory. -/
namespace Go.Proofs.YtjmglgcifekhgaaDoor
open Go Go.RowKit
set_option linter.unusedVariables false

def dvs (d : Dt) : List Value := [.int .i64 d.1, .int .i64 d.2]
def dcl (l : List Dt) : List Value := l.flatMap dvs
theorem dcl_cons (d : Dt) (l : List Dt) : dcl (d :: l) = .int .i64 d.1 :: .int .i64 d.2 :: dcl l := rfl
theorem dcl_length : ∀ l : List Dt, (dcl l).length = l.length * 2
  | [] => rfl
  | d :: l => by rw [dcl_cons, List.length_cons, List.length_cons, dcl_length l, List.length_cons]; omega
theorem dcl_append (a b : List Dt) : dcl (a ++ b) = dcl a ++ dcl b := by simp [dcl]
theorem dcl_get : ∀ (l : List Dt) (i : Nat) (hi : i < l.length), (dcl l)[i * 2]? = some (.int .i64 l[i].1) ∧ (dcl l)[i * 2 + 1]? = some (.int .i64 l[i].2)
  | d :: l, 0, _ => ⟨rfl, rfl⟩
  | d :: l, i + 1, hi => by
    have := dcl_get l i (by simpa using hi)
    rw [dcl_cons, show (i + 1) * 2 = i * 2 + 1 + 1 from by omega, show i * 2 + 1 + 1 + 1 = (i * 2 + 1) + 1 + 1 from rfl]
    simpa using this
theorem dcl_one (l : List Dt) : ∀ u ∈ dcl l, u.oneCell' = true := by
  intro u hu
  obtain ⟨d, _, h⟩ := List.mem_flatMap.1 hu
  simp [dvs] at h
  rcases h with rfl | rfl <;> rfl
theorem dcl_at (l : List Dt) (j : Nat) (u : Value) (h : (dcl l)[j]? = some u) : ∃ i, ∃ hi : i < l.length, (j = i * 2 ∧ u = .int .i64 l[i].1) ∨ (j = i * 2 + 1 ∧ u = .int .i64 l[i].2) := by
  have hj : j < l.length * 2 := by rw [← dcl_length]; exact (List.getElem?_eq_some_iff.1 h).1
  refine ⟨j / 2, by omega, ?_⟩
  obtain ⟨g1, g2⟩ := dcl_get l (j / 2) (by omega)
  rcases Nat.mod_two_eq_zero_or_one j with e | e
  · left
    have e2 : j / 2 * 2 = j := by omega
    rw [e2, h] at g1
    exact ⟨e2.symm, Option.some.inj g1⟩
  · right
    have e2 : j / 2 * 2 + 1 = j := by omega
    rw [e2, h] at g2
    exact ⟨e2.symm, Option.some.inj g2⟩

/-- dots that lie at p -/
def DRow (w : World) (p : Option Addr) (l : List Dt) : Prop := l ≠ [] → ∃ b o, p = some ⟨b, o, none⟩ ∧ w.rangeAt b o (dcl l)
theorem range_lt {w : World} {b o : Nat} {l : List Dt} (h : w.rangeAt b o (dcl l)) (hn : l ≠ []) : b < w.heap.size := by
  cases l with
  | nil => exact absurd rfl hn
  | cons d l => exact World.block_lt_of_cell? w _ (h 0 _ rfl)
theorem DRow.below {w w' : World} {p : Option Addr} {l : List Dt} (h : DRow w p l) (hb : Below w.heap.size w w') : DRow w' p l := fun hn => by
  obtain ⟨b, o, rfl, hr⟩ := h hn
  exact ⟨b, o, rfl, range_below hr hb⟩
theorem DRow.nil (w : World) (p : Option Addr) : DRow w p [] := fun h => absurd rfl h
/-- a row of dots, one's own -/
structure OwnD (w : World) (g : Nat) (l : List Dt) : Prop where
  range : w.rangeAt g 0 (dcl l)
  free : ∀ j, j < l.length * 2 → w.frozen? ⟨g, j, none⟩ = false
  lt : g < w.heap.size
theorem OwnD.later {w w' : World} {g : Nat} {l : List Dt} (h : OwnD w g l) (hb : Below w.heap.size w w') : OwnD w' g l :=
  ⟨range_below h.range hb, fun j hj => (hb.frozen (p := ⟨g, j, none⟩) h.lt).trans (h.free j hj), Nat.lt_of_lt_of_le h.lt hb.size⟩
theorem OwnD.kept {w w' : World} {g : Nat} {l : List Dt} (h : OwnD w g l) {row : Option Nat} (hg : w.grownBy w' row) (hne : some g ≠ row) : OwnD w' g l :=
  ⟨fun j u hu => by
    have h1 := h.range j u hu
    rw [World.cell?_of_block (w := w) (a := ⟨g, 0 + j, none⟩) (hg.block g h.lt hne)]; exact h1,
  fun j hj => by rw [World.frozen?_of_block (w := w) (a := ⟨g, j, none⟩) (hg.block g h.lt hne)]; exact h.free j hj, Nat.lt_of_lt_of_le h.lt hg.size⟩
theorem OwnD.row {w : World} {g : Nat} {l : List Dt} (h : OwnD w g l) : DRow w (some ⟨g, 0, none⟩) l := fun _ => ⟨g, 0, rfl, h.range⟩
theorem OwnD.cells {w : World} {g : Nat} {l : List Dt} (h : OwnD w g l) (i : Nat) (hi : i < l.length) : w.cell? ⟨g, i * 2, none⟩ = some (.int .i64 l[i].1) ∧ w.cell? ⟨g, i * 2 + 1, none⟩ = some (.int .i64 l[i].2) := by
  obtain ⟨g1, g2⟩ := dcl_get l i hi
  have h1 := h.range _ _ g1
  have h2 := h.range _ _ g2
  rw [Nat.zero_add] at h1 h2
  exact ⟨h1, h2⟩

theorem infoDt : (Tryd.prog.info? 28).map (fun i => (i.zero, i.size, i.bytes)) = some (some (.agg #[.int .i64 0, .int .i64 0]), 2, 16) := by kernel_rfl
/-- what a call owns lies where it is -/
theorem own_drow {w : World} {B : Nat} {v : Value} {n : Nat} {l : List Dt} (h : w.ownsRow B 28 2 v n (dcl l)) :
    n = l.length ∧ ∃ p cap, v = .slice p l.length cap ∧ l.length ≤ cap ∧ DRow w p l ∧ (p = none → l = [] ∧ cap = 0) ∧ (∀ a, p = some a → ∃ g, a = ⟨g, 0, none⟩ ∧ B ≤ g ∧ OwnD w g l) := by
  have hlen : n = l.length := by have := h.1; rw [dcl_length] at this; omega
  subst hlen
  refine ⟨rfl, ?_⟩
  rcases h.2 with ⟨rfl, hn⟩ | ⟨g, cap, cur, rfl, hle, hcur, hnc, hcm, hsz, htk⟩
  · obtain rfl := List.eq_nil_of_length_eq_zero hn
    exact ⟨none, 0, rfl, Nat.le_refl _, DRow.nil _ _, fun _ => ⟨rfl, rfl⟩, fun a ha => by cases ha⟩
  · have hO : OwnD w g l := by
      refine ⟨fun j u hu => ?_, fun j _ => frozen_of_row _ _ _ _ _ hcur, (Array.getElem?_eq_some_iff.1 hcur).1⟩
      have hj : j < l.length * 2 := by rw [← dcl_length]; exact (List.getElem?_eq_some_iff.1 hu).1
      have := congrArg (·[j]?) htk
      simp only [List.getElem?_take, if_pos hj, Array.getElem?_toList] at this
      rw [Nat.zero_add, cell_of_row _ g j _ _ _ hcur, this]; exact hu
    exact ⟨some ⟨g, 0, none⟩, cap, rfl, hnc, hO.row, fun e => (by cases e), fun a ha => by
      obtain rfl := Option.some.inj ha
      exact ⟨g, rfl, hle, hO⟩⟩

end Go.Proofs.YtjmglgcifekhgaaDoor
/- slices.Clone of dots. -/
namespace Go.Proofs
open Go.Shelf
end Go.Proofs
namespace Go.Proofs.YtjmglgcifekhgaaDoor
open Go Go.RowKit
set_option linter.unusedVariables false
end Go.Proofs.YtjmglgcifekhgaaDoor
/- Events: how they lie; slices.Clone of them and of their dots. -/
namespace Go.Proofs
open Go.Shelf
end Go.Proofs
namespace Go.Proofs.YtjmglgcifekhgaaDoor
open Go Go.RowKit
set_option linter.unusedVariables false

/-! Rows of things of k cells -/
section
variable {α : Type} {f : α → List Value} {k : Nat}
theorem flat_len (hk : ∀ x, (f x).length = k) : ∀ l : List α, (l.flatMap f).length = l.length * k
  | [] => by simp
  | x :: l => by
    rw [List.flatMap_cons, List.length_append, hk, flat_len hk l, List.length_cons, Nat.add_mul]; omega
theorem flat_get (hk : ∀ x, (f x).length = k) : ∀ (l : List α) (i : Nat) (hi : i < l.length) (j : Nat) (hj : j < k), (l.flatMap f)[i * k + j]? = (f l[i])[j]?
  | x :: l, 0, _, j, hj => by
    rw [List.flatMap_cons, Nat.zero_mul, Nat.zero_add, List.getElem?_append_left (by rw [hk]; exact hj)]; rfl
  | x :: l, i + 1, hi, j, hj => by
    rw [List.flatMap_cons, show (i + 1) * k + j = k + (i * k + j) from by rw [Nat.add_mul]; omega, List.getElem?_append_right (by rw [hk]; omega), hk, Nat.add_sub_cancel_left, flat_get hk l i (by simpa using hi) j hj]
    rfl
theorem flat_set (hk : ∀ x, (f x).length = k) (j : Nat) (hj : j < k) (u : Value) (y : α) : ∀ (l : List α) (i : Nat) (hi : i < l.length) (hy : f y = (f l[i]).set j u), (l.flatMap f).set (i * k + j) u = (l.set i y).flatMap f
  | x :: l, 0, _, hy => by
    have hy' : f y = (f x).set j u := hy
    rw [List.flatMap_cons, Nat.zero_mul, Nat.zero_add, List.set_append_left _ _ (by rw [hk]; exact hj), List.set_cons_zero, List.flatMap_cons, hy']
  | x :: l, i + 1, hi, hy => by
    have hy' : f y = (f (l[i]'(by simpa using hi))).set j u := hy
    rw [List.flatMap_cons, show (i + 1) * k + j = k + (i * k + j) from by rw [Nat.add_mul]; omega, List.set_append_right _ _ (by rw [hk]; omega), hk, Nat.add_sub_cancel_left, flat_set hk j hj u y l i (by simpa using hi) hy', List.set_cons_succ, List.flatMap_cons]
end

/-- an event -/
structure Ev where
  rep : Int
  n : Int
  time : Int
  kind : Int
  doc : ByteArray
  field : Int
  text : ByteArray
  gone : List Dt
/-- an event, and where its dots lie -/
structure EvP where
  e : Ev
  p : Option Addr
  c : Nat
def EvP.cells (x : EvP) : List Value := [.int .i64 x.e.rep, .int .i64 x.e.n, .int .i64 x.e.time, .int .i64 x.e.kind, .string x.e.doc, .int .i64 x.e.field, .string x.e.text, .slice x.p x.e.gone.length x.c]
theorem EvP.cells_len (x : EvP) : x.cells.length = 8 := rfl
theorem EvP.cells_one (x : EvP) : ∀ u ∈ x.cells, u.oneCell' = true := by
  intro u hu
  simp [EvP.cells] at hu
  rcases hu with rfl | rfl | rfl | rfl | rfl | rfl | rfl | rfl <;> rfl
def ecl (L : List EvP) : List Value := L.flatMap EvP.cells
theorem ecl_length (L : List EvP) : (ecl L).length = L.length * 8 := flat_len EvP.cells_len L
theorem ecl_append (a b : List EvP) : ecl (a ++ b) = ecl a ++ ecl b := by simp [ecl]
theorem ecl_one (L : List EvP) : ∀ u ∈ ecl L, u.oneCell' = true := by
  intro u hu
  obtain ⟨x, _, h⟩ := List.mem_flatMap.1 hu
  exact x.cells_one u h
/-- the dots that an event takes away lie where it says -/
def EvP.Ok (w : World) (x : EvP) : Prop := DRow w x.p x.e.gone ∧ (x.p = none → x.e.gone = [])
theorem EvP.Ok.below {w w' : World} {x : EvP} (h : x.Ok w) (hb : Below w.heap.size w w') : x.Ok w' := ⟨h.1.below hb, h.2⟩
/-- events that lie at p -/
structure EvsAt (w : World) (p : Option Addr) (L : List EvP) : Prop where
  row : L ≠ [] → ∃ b o, p = some ⟨b, o, none⟩ ∧ w.rangeAt b o (ecl L)
  ok : ∀ x ∈ L, x.Ok w
  none : p = none → L = []
theorem EvsAt.below {w w' : World} {p : Option Addr} {L : List EvP} (h : EvsAt w p L) (hb : Below w.heap.size w w') : EvsAt w' p L :=
  ⟨fun hn => by
    obtain ⟨b, o, rfl, hr⟩ := h.row hn
    exact ⟨b, o, rfl, range_below hr hb⟩, fun x hx => (h.ok x hx).below hb, h.none⟩
theorem EvsAt.at {w : World} {p : Option Addr} {L : List EvP} (h : EvsAt w p L) {i : Nat} (hi : i < L.length) :
    ∃ b o, p = some ⟨b, o, Option.none⟩ ∧ b < w.heap.size ∧ w.rangeAt b (o + i * 8) L[i].cells := by
  obtain ⟨b, o, rfl, hr⟩ := h.row (by intro e; subst e; simp at hi)
  have hr2 : w.rangeAt b (o + i * 8) L[i].cells := fun j u hu => by
    have hj : j < 8 := (List.getElem?_eq_some_iff.1 hu).1
    have := hr (i * 8 + j) u (by rw [show ecl L = L.flatMap EvP.cells from rfl, flat_get EvP.cells_len L i hi j hj]; exact hu)
    rw [Nat.add_assoc]; exact this
  exact ⟨b, o, rfl, World.block_lt_of_cell? w _ (hr2 0 _ rfl), hr2⟩

theorem infoEv : (Tryd.prog.info? 31).map (fun i => (i.zero, i.size, i.bytes)) = some (some (.agg #[.int .i64 0, .int .i64 0, .int .i64 0, .int .i64 0, .string ByteArray.empty, .int .i64 0, .string ByteArray.empty, .slice none 0 0]), 8, 96) := by kernel_rfl
end Go.Proofs.YtjmglgcifekhgaaDoor
/- A past by value: its events' slice, and its floor. -/
namespace Go.Proofs.YtjmglgcifekhgaaDoor
open Go Go.RowKit
set_option linter.unusedVariables false

/-! Some cells of a block written at once -/
def setL (cs : Array Value) : Nat → List Value → Array Value
  | _, [] => cs
  | o, v :: r => setL (cs.setIfInBounds o v) (o + 1) r
theorem setL_size : ∀ (vs : List Value) (cs : Array Value) (o : Nat), (setL cs o vs).size = cs.size
  | [], _, _ => rfl
  | v :: r, cs, o => by rw [setL, setL_size r]; simp
theorem setL_get : ∀ (vs : List Value) (cs : Array Value) (o : Nat) (hle : o + vs.length ≤ cs.size) (i : Nat), (setL cs o vs)[i]? = if o ≤ i ∧ i < o + vs.length then vs[i - o]? else cs[i]?
  | [], cs, o, _, i => by
    have : ¬ (o ≤ i ∧ i < o + ([] : List Value).length) := by simp
    rw [if_neg this]; rfl
  | v :: r, cs, o, hle, i => by
    rw [List.length_cons] at hle ⊢
    rw [setL, setL_get r _ _ (by simp; omega)]
    by_cases h1 : o + 1 ≤ i ∧ i < o + 1 + r.length
    · rw [if_pos h1, if_pos (by omega), show i - o = (i - (o + 1)) + 1 from by omega, List.getElem?_cons_succ]
    · rw [if_neg h1]
      by_cases h2 : o = i
      · subst h2
        rw [if_pos (by omega), Array.getElem?_setIfInBounds, if_pos rfl, if_pos (by omega), Nat.sub_self]; rfl
      · rw [if_neg (by omega), Array.getElem?_setIfInBounds, if_neg h2]
theorem heap_setCells {g : Nat} {ty : TypeId} {m : Nat × Nat} : ∀ (vs : List Value) (w : World) (cs : Array Value) (o : Nat), w.heap[g]? = some (.cells cs ty m) → (w.setCells g o vs).heap[g]? = some (.cells (setL cs o vs) ty m)
  | [], _, _, _, h => h
  | v :: r, w, cs, o, h => by
    rw [World.setCells, setL]
    exact heap_setCells r _ _ _ (block_setCell h v)
theorem grown_setCells (g : Nat) : ∀ (vs : List Value) (w : World) (o : Nat), w.grownBy (w.setCells g o vs) (some g)
  | [], w, _ => ⟨rfl, rfl, rfl, Nat.le_refl _, fun _ _ _ => rfl⟩
  | v :: r, w, o => by
    rw [World.setCells]
    have h1 := grown_cell w g o v
    have h2 := grown_setCells g r (w.setCell ⟨g, o, none⟩ v) (o + 1)
    exact ⟨h2.os.trans h1.os, h2.tape.trans h1.tape, h2.output.trans h1.output, Nat.le_trans h1.size h2.size, fun i hi hne => (h2.block i (Nat.lt_of_lt_of_le hi h1.size) hne).trans (h1.block i hi hne)⟩

def pcs (v : Value) (f : Nat → Int) : Array Value := (v :: (vf f).toList).toArray
theorem pcs_size (v : Value) (f : Nat → Int) : (pcs v f).size = 65 := by simp [pcs, vf_size]
theorem pcs_zero (v : Value) (f : Nat → Int) : (pcs v f)[0]? = some v := rfl
theorem pcs_succ (v : Value) (f : Nat → Int) (k : Nat) : (pcs v f)[k + 1]? = (vf f)[k]? := by simp [pcs]
theorem pcs_congr (v : Value) {f g : Nat → Int} (h : ∀ i, i < 64 → f i = g i) : pcs v f = pcs v g := by rw [pcs, vf_congr h, pcs]
theorem pcs_oneV (f : Nat → Int) {v : Value} (h : ∃ p n c, v = .slice p n c) : ∀ u ∈ (pcs v f).toList, u.oneCell' = true := by
  intro u hu
  simp only [pcs, List.mem_cons] at hu
  rcases hu with rfl | hu
  · obtain ⟨p, n, c, rfl⟩ := h; rfl
  · exact (Array.all_eq_true_iff_forall_mem.1 (vf_one f)) u (by simpa using hu)
theorem sizeVc (f : Nat → Int) : (Tryd.prog.info? 23).map (·.size) = some (vf f).size := by rw [vf_size]; kernel_rfl
theorem sizeVcl (f : Nat → Int) : (Tryd.prog.info? 23).map (·.size) = some (vf f).toList.length := by rw [Array.length_toList, vf_size]; kernel_rfl
end Go.Proofs.YtjmglgcifekhgaaDoor
/- Which events are few. -/
namespace Go.Proofs.YtjmglgcifekhgaaDoor
open Go Go.RowKit
set_option linter.unusedVariables false

theorem ev_cells {w : World} {b o : Nat} {x : EvP} (h : w.rangeAt b o x.cells) :
    w.cell? ⟨b, o, none⟩ = some (.int .i64 x.e.rep) ∧ w.cell? ⟨b, o + 1, none⟩ = some (.int .i64 x.e.n) ∧ w.cell? ⟨b, o + 2, none⟩ = some (.int .i64 x.e.time) ∧ w.cell? ⟨b, o + 3, none⟩ = some (.int .i64 x.e.kind) ∧
    w.cell? ⟨b, o + 4, none⟩ = some (.string x.e.doc) ∧ w.cell? ⟨b, o + 5, none⟩ = some (.int .i64 x.e.field) ∧ w.cell? ⟨b, o + 6, none⟩ = some (.string x.e.text) ∧ w.cell? ⟨b, o + 7, none⟩ = some (.slice x.p x.e.gone.length x.c) :=
  ⟨h 0 _ rfl, h 1 _ rfl, h 2 _ rfl, h 3 _ rfl, h 4 _ rfl, h 5 _ rfl, h 6 _ rfl, h 7 _ rfl⟩
/-- a list of events that came in -/
structure EvL where
  p : Option Addr
  c : Nat
  L : List EvP
def EvL.small (x : EvL) : Prop := x.L.length ≤ 80 ∧ ∀ y ∈ x.L, y.e.gone.length ≤ 130
def EvL.nil : EvL := ⟨none, 0, []⟩
def FewR (w : World) (K : List EvL) (e : Ending) (w' : World) : Prop := ∃ b, e = .returned (.bool b) ∧ (b = true → ∀ i, i < K.length → (K.getD i EvL.nil).small) ∧ Below w.heap.size w w'
set_option maxHeartbeats 8000000 in
set_option maxRecDepth 1000000 in
theorem fewE_is (G c0 : Nat) (K : List EvL) (w : World) (hG : ∀ i, i < K.length → w.cell? ⟨G, i, none⟩ = some (.slice (K.getD i EvL.nil).p (K.getD i EvL.nil).L.length (K.getD i EvL.nil).c) ∧ EvsAt w (K.getD i EvL.nil).p (K.getD i EvL.nil).L) (hK : K.length ≤ 10) :
    Calls Tryd.prog 6 #[.slice (some ⟨G, 0, none⟩) K.length c0] w (FewR w K) := by
  have HG := Lib.hid hG
  clear hG
  go_enter Tryd.func6, Tryd.ntmps6
  go_wp2
  go_loopw [3, 4, 11] (fun n b i wr => ∃ j m q : Nat, j ≤ K.length ∧ m ≤ 80 ∧ q ≤ 8192 ∧ n = .int .i64 m ∧ b = .int .i64 q ∧ i = .int .i64 j ∧ (∀ i, i < j → (K.getD i EvL.nil).small) ∧ Below w.heap.size w wr) (fun _ _ i _ => K.length - (intOf i).toNat)
  case atStart => exact ⟨0, 0, 0, Nat.zero_le _, Nat.zero_le _, Nat.zero_le _, rfl, rfl, rfl, fun i hi => by omega, Below.refl _ _⟩
  case round =>
    obtain ⟨j, m, q, hj, hm, hq, rfl, rfl, rfl, hall, hb⟩ := hrel
    have HA := Lib.hid hall; have BB := Lib.hid hb
    clear hall
    by_cases hjk : j < K.length
    · have hjk' : (j : Int) < K.length := by omega
      obtain ⟨k1, k2⟩ := HG.out j hjk
      have kc := (hb.cell (p := ⟨G, j, none⟩) (World.block_lt_of_cell? w _ k1)).trans k1
      have EV := Lib.hid k2
      clear k1 k2 hb
      have SM : Hid (∀ P : EvL → Prop, (K.getD j EvL.nil = K.getD j EvL.nil) → P (K.getD j EvL.nil) → P (K.getD j EvL.nil)) := Lib.hid fun P _ h => h
      clear SM
      obtain ⟨x, hx⟩ : ∃ x, K.getD j EvL.nil = x := ⟨_, rfl⟩
      rw [hx] at kc EV
      have HX := Lib.hid hx
      clear hx
      obtain ⟨p, c, L⟩ := x
      simp only at kc EV
      obtain ⟨m1, hm1⟩ : ∃ m1 : Nat, min (L.length : Int) 100 = m1 := ⟨min L.length 100, by omega⟩
      by_cases h80 : m + m1 ≤ 80
      · have h80' : ¬ ((m : Int) + m1 > 80) := by omega
        have hL80 : L.length ≤ 80 := by omega
        have HM := Lib.hid hm1
        clear hm1
        have hm1 : min (L.length : Int) 100 = m1 := HM.out
        go_wp2
        clear hm1
        go_loopw [4, 24] (fun b i wi => ∃ k q' : Nat, k ≤ L.length ∧ q' ≤ 8192 ∧ b = .int .i64 q' ∧ i = .int .i64 k ∧ (∀ i (hi : i < L.length), i < k → (L[i].e.gone.length ≤ 130)) ∧ Below w.heap.size w wi) (fun _ i _ => L.length - (intOf i).toNat)
        case atStart => exact ⟨0, q, Nat.zero_le _, hq, rfl, rfl, fun i _ hi => by omega, BB.out⟩
        case round =>
          obtain ⟨k, q', hk, hq', rfl, rfl, hall2, hb2⟩ := hrel
          have HA2 := Lib.hid hall2; have B2 := Lib.hid hb2
          clear hall2
          by_cases hkl : k < L.length
          · have hkl' : (k : Int) < L.length := by omega
            obtain ⟨b, o, rfl, hlt, hr⟩ := EV.out.at hkl
            have hr2 := range_below (w := w) hr hb2
            obtain ⟨c0, c1, c2, c3, c4, c5, c6, c7⟩ := ev_cells hr2
            have HL : Hid (L[k].e.gone.length = L[k].e.gone.length) := Lib.hid rfl
            clear hb2 hr hr2 hlt HL
            obtain ⟨y, hy⟩ : ∃ y, L[k] = y := ⟨_, rfl⟩
            rw [hy] at c0 c1 c2 c3 c4 c5 c6 c7
            have HY := Lib.hid hy
            clear hy
            obtain ⟨⟨r, n, t, kd, d, fl, tx, g⟩, gp, gc⟩ := y
            simp only at c0 c1 c2 c3 c4 c5 c6 c7
            have B3 := Lib.hid (B2.out.alloc B2.out.size (.cells #[.int .i64 r, .int .i64 n, .int .i64 t, .int .i64 kd, .string d, .int .i64 fl, .string tx, .slice gp g.length gc] 31))
            obtain ⟨a1, ha1⟩ : ∃ a1 : Nat, min (d.size : Int) 8192 = a1 := ⟨min d.size 8192, by omega⟩
            obtain ⟨a2, ha2⟩ : ∃ a2 : Nat, min (tx.size : Int) 8192 = a2 := ⟨min tx.size 8192, by omega⟩
            have z1 : a1 ≤ 8192 := by omega
            have z2 : a2 ≤ 8192 := by omega
            by_cases h130 : g.length ≤ 130
            · have h130' : ¬ ((g.length : Int) > 130) := by omega
              by_cases hbig : q' + (a1 + a2) ≤ 8192
              · have hbig' : ¬ ((q' : Int) + (a1 + a2) > 8192) := by omega
                go_wp2
                go_roundw
                case rel => exact ⟨k + 1, q' + (a1 + a2), by omega, hbig, by go_num, by go_num, fun i hi hik => by
                  rcases Nat.lt_or_ge i k with h | h
                  · exact HA2.out i hi h
                  · obtain rfl : i = k := by omega
                    rw [HY.out]; exact h130, by simpa using B3.out⟩
                case measure => simp [intOf]; omega
              · have hbig' : (q' : Int) + (a1 + a2) > 8192 := by omega
                go_wp2
                go_ret
                exact ⟨false, rfl, (fun h => by cases h), B3.out⟩
            · have h130' : (g.length : Int) > 130 := by omega
              go_wp2
              go_ret
              exact ⟨false, rfl, (fun h => by cases h), B3.out⟩
          · obtain rfl : k = L.length := by omega
            have hkl' : ¬ ((L.length : Nat) : Int) < L.length := by omega
            clear hb2
            go_wp2
            go_roundw
            case rel => exact ⟨j + 1, m + m1, q', by omega, h80, hq', by go_num, by go_num, by go_num, fun i hi => by
              rcases Nat.lt_or_ge i j with h | h
              · exact HA.out i h
              · obtain rfl : i = j := by omega
                rw [HX.out]
                exact ⟨hL80, fun y hy => by
                  obtain ⟨i, hi, rfl⟩ := List.getElem_of_mem hy
                  exact HA2.out i hi hi⟩, by simpa using B2.out⟩
            case measure => simp [intOf]; omega
      · have h80' : ((m : Int) + m1 > 80) := by omega
        go_wp2
        go_ret
        exact ⟨false, rfl, (fun h => by cases h), BB.out⟩
    · obtain rfl : j = K.length := by omega
      have hjk' : ¬ ((K.length : Nat) : Int) < K.length := by omega
      go_wp2
      go_ret
      exact ⟨true, rfl, fun _ => HA.out, BB.out⟩
end Go.Proofs.YtjmglgcifekhgaaDoor
/- What goes of events, and what comes of it: plain. -/
namespace Go.Proofs.YtjmglgcifekhgaaDoor
open Go
set_option linter.unusedVariables false

def Ev.isDrop (e : Ev) : Bool := decide (e.kind = 2)
def Ev.has (v : Nat → Int) (e : Ev) : Bool := hasB v e.rep e.n
def dropsOf (l : List Ev) : Nat := l.countP Ev.isDrop
def restOf' (l : List Ev) : Nat := l.countP fun e => !e.isDrop
theorem drops_rest : ∀ l : List Ev, dropsOf l + restOf' l = l.length
  | [] => rfl
  | e :: l => by
    have := drops_rest l
    unfold dropsOf restOf' at *
    rw [List.countP_cons, List.countP_cons, List.length_cons]
    cases e.isDrop <;> simp <;> omega
theorem drops_append (a b : List Ev) : dropsOf (a ++ b) = dropsOf a + dropsOf b := List.countP_append
theorem rest_append (a b : List Ev) : restOf' (a ++ b) = restOf' a + restOf' b := List.countP_append
theorem withF_le (f : Nat → Int) (r n : Int) (i : Nat) : f i ≤ withF f r n i := by
  unfold withF
  split
  · unfold vset
    split
    · rename_i h; subst h; omega
    · omega
  · omega

section
variable {σ : Type} (goes : σ → Ev → Bool) (next : σ → Ev → σ)
/-- one event more: what is known of the others, those that stay, and the floor -/
def wStep (x : σ × List Ev × (Nat → Int)) (e : Ev) : σ × List Ev × (Nat → Int) :=
  if goes x.1 e then (next x.1 e, x.2.1, withF x.2.2 e.rep e.n) else (next x.1 e, x.2.1 ++ [e], x.2.2)
def wRun (s : σ) (f : Nat → Int) (l : List Ev) : σ × List Ev × (Nat → Int) := l.foldl (wStep goes next) (s, [], f)
theorem wRun_snoc (s : σ) (f : Nat → Int) (l : List Ev) (e : Ev) : wRun goes next s f (l ++ [e]) = wStep goes next (wRun goes next s f l) e := by simp [wRun]
theorem wRun_mono : ∀ (l : List Ev) (x : σ × List Ev × (Nat → Int)) (i : Nat), x.2.2 i ≤ (l.foldl (wStep goes next) x).2.2 i
  | [], _, _ => Int.le_refl _
  | e :: l, x, i => by
    rw [List.foldl_cons]
    refine Int.le_trans ?_ (wRun_mono l _ i)
    unfold wStep
    split
    · exact withF_le _ _ _ _
    · exact Int.le_refl _
theorem wRun_floor (s : σ) (f : Nat → Int) (l : List Ev) : vle f (wRun goes next s f l).2.2 = true := (vle_iff _ _).2 fun i _ => wRun_mono goes next l _ i
theorem wRun_len : ∀ (l : List Ev) (x : σ × List Ev × (Nat → Int)), (l.foldl (wStep goes next) x).2.1.length ≤ x.2.1.length + l.length
  | [], _ => by simp
  | e :: l, x => by
    rw [List.foldl_cons]
    have := wRun_len l (wStep goes next x e)
    have h2 : (wStep goes next x e).2.1.length ≤ x.2.1.length + 1 := by
      unfold wStep
      split <;> simp
    rw [List.length_cons]
    omega
end

/-- Trim: of those that are no removal so many go -/
def trimGoes (a : Int) (e : Ev) : Bool := !e.isDrop && decide (0 < a)
def trimNext (a : Int) (e : Ev) : Int := if trimGoes a e then a - 1 else a
theorem trim_drops : ∀ (l : List Ev) (x : Int × List Ev × (Nat → Int)), dropsOf (l.foldl (wStep trimGoes trimNext) x).2.1 = dropsOf x.2.1 + dropsOf l
  | [], _ => by simp [dropsOf]
  | e :: l, x => by
    rw [List.foldl_cons, trim_drops l]
    have e1 : dropsOf (e :: l) = dropsOf [e] + dropsOf l := drops_append [e] l
    rw [e1]
    unfold wStep
    by_cases hg : trimGoes x.1 e = true
    · rw [if_pos hg]
      have : dropsOf [e] = 0 := by
        unfold trimGoes at hg
        simp only [Bool.and_eq_true, Bool.not_eq_true'] at hg
        simp [dropsOf, hg.1]
      simp only [this]; omega
    · rw [if_neg hg]
      simp only [drops_append]; omega
theorem trim_rest : ∀ (l : List Ev) (x : Int × List Ev × (Nat → Int)), (restOf' (l.foldl (wStep trimGoes trimNext) x).2.1 : Int) = restOf' x.2.1 + restOf' l - min (restOf' l : Int) (max x.1 0)
  | [], x => by simp [restOf']; omega
  | e :: l, x => by
    rw [List.foldl_cons, trim_rest l]
    have e1 : restOf' (e :: l) = restOf' [e] + restOf' l := rest_append [e] l
    rw [e1]
    cases hd : e.isDrop with
    | true =>
      have hr : restOf' [e] = 0 := by simp [restOf', hd]
      have hg : trimGoes x.1 e = false := by simp [trimGoes, hd]
      simp only [wStep, trimNext, hg, Bool.false_eq_true, if_false, rest_append, hr]
      omega
    | false =>
      have hr : restOf' [e] = 1 := by simp [restOf', hd]
      by_cases ha : 0 < x.1
      · have hg : trimGoes x.1 e = true := by simp [trimGoes, hd, ha]
        simp only [wStep, trimNext, hg, if_true, hr]
        omega
      · have hg : trimGoes x.1 e = false := by simp [trimGoes, ha]
        simp only [wStep, trimNext, hg, Bool.false_eq_true, if_false, rest_append, hr]
        omega
/-- what is behind Trim -/
def trimOf (l : List Ev) (f : Nat → Int) (most : Int) : Int × List Ev × (Nat → Int) := wRun trimGoes trimNext ((l.length : Int) - dropsOf l - max most 0) f l
theorem trimOf_drops (l : List Ev) (f : Nat → Int) (most : Int) : dropsOf (trimOf l f most).2.1 = dropsOf l := by
  unfold trimOf wRun
  rw [trim_drops]
  simp [dropsOf]
theorem trimOf_rest (l : List Ev) (f : Nat → Int) (most : Int) : ((trimOf l f most).2.1.length : Int) - dropsOf (trimOf l f most).2.1 ≤ max most 0 := by
  have h1 := drops_rest (trimOf l f most).2.1
  have h2 := drops_rest l
  have h3 := trim_rest l (((l.length : Int) - dropsOf l - max most 0), [], f)
  change ((restOf' (trimOf l f most).2.1 : Nat) : Int) = _ at h3
  have h4 : restOf' [] = 0 := rfl
  simp only [h4] at h3
  omega
/-- Collect: those that all have go -/
def collGoes (v : Nat → Int) (_ : Unit) (e : Ev) : Bool := e.has v
def collNext (_ : Unit) (_ : Ev) : Unit := ()
def collOf (l : List Ev) (f v : Nat → Int) : Unit × List Ev × (Nat → Int) := wRun (collGoes v) collNext () f l
def openOf (v : Nat → Int) (l : List Ev) : Nat := l.countP fun e => e.isDrop && !e.has v
theorem coll_drops (v : Nat → Int) : ∀ (l : List Ev) (x : Unit × List Ev × (Nat → Int)), dropsOf (l.foldl (wStep (collGoes v) collNext) x).2.1 = dropsOf x.2.1 + openOf v l
  | [], _ => by simp [dropsOf, openOf]
  | e :: l, x => by
    rw [List.foldl_cons, coll_drops v l]
    have e1 : openOf v (e :: l) = openOf v [e] + openOf v l := List.countP_append (l₁ := [e])
    rw [e1]
    unfold wStep
    cases hg : e.has v with
    | true =>
      have : openOf v [e] = 0 := by simp [openOf, hg]
      rw [if_pos (by simpa [collGoes] using hg)]
      simp only [this]; omega
    | false =>
      have : openOf v [e] = dropsOf [e] := by simp [openOf, dropsOf, hg]
      rw [if_neg (by simp [collGoes, hg])]
      simp only [drops_append, this]; omega
theorem collOf_drops (l : List Ev) (f v : Nat → Int) : dropsOf (collOf l f v).2.1 = openOf v l := by
  unfold collOf wRun
  rw [coll_drops]
  simp [dropsOf]
end Go.Proofs.YtjmglgcifekhgaaDoor
/- past: Drops, and the copy of events. -/
namespace Go.Proofs.YtjmglgcifekhgaaDoor
open Go Go.RowKit
set_option linter.unusedVariables false

def evs (L : List EvP) : List Ev := L.map (·.e)
theorem drops_take (L : List EvP) (j : Nat) (h : j < L.length) : dropsOf (evs (L.take (j + 1))) = dropsOf (evs (L.take j)) + (if L[j].e.kind = 2 then 1 else 0) := by
  rw [List.take_add_one, List.getElem?_eq_getElem h, evs, List.map_append]
  rw [drops_append]
  simp [dropsOf, evs, Ev.isDrop, List.countP_cons]
/-- two rows of things of other types lie apart -/
theorem own_apart {w : World} {B B' : Nat} {e e' : TypeId} {k k' n n' : Nat} {v v' : Value} {xs xs' : List Value} (h : w.ownsRow B e k v n xs) (h' : w.ownsRow B' e' k' v' n' xs') (hne : e ≠ e') : v.ownBlock = none ∨ v.ownBlock ≠ v'.ownBlock := by
  rcases h.2 with ⟨rfl, _⟩ | ⟨g, cap, cur, rfl, _, hg, _⟩
  · exact .inl rfl
  · right
    rcases h'.2 with ⟨rfl, _⟩ | ⟨g', cap', cur', rfl, _, hg', _⟩
    · simp [Value.ownBlock]
    · intro e1
      have e2 : g = g' := by simpa [Value.ownBlock] using e1
      subst e2
      rw [hg] at hg'
      injection hg' with hg'
      injection hg' with _ e3 _
      exact hne e3
/-- events of one's own: their row, and the rows of the dots of each -/
structure OwnE (w : World) (B : Nat) (v : Value) (L : List EvP) : Prop where
  row : w.ownsRow B 31 8 v L.length (ecl L)
  gone : ∀ x ∈ L, w.ownsRow B 28 2 (.slice x.p x.e.gone.length x.c) x.e.gone.length (dcl x.e.gone)
theorem own_slice {w : World} {B : Nat} {e : TypeId} {k n : Nat} {v : Value} {xs : List Value} (h : w.ownsRow B e k v n xs) : ∃ p c, v = .slice p n c := by
  rcases h.2 with ⟨rfl, rfl⟩ | ⟨g, cap, cur, rfl, _⟩
  · exact ⟨none, 0, rfl⟩
  · exact ⟨_, _, rfl⟩
theorem own_later {w w' : World} {B : Nat} {e : TypeId} {k n : Nat} {v : Value} {xs : List Value} (h : w.ownsRow B e k v n xs) (hb : Below w.heap.size w w') : w'.ownsRow B e k v n xs := by
  refine ⟨h.1, ?_⟩
  rcases h.2 with q | ⟨g, cap, cur, q1, q2, q3, q4⟩
  · exact .inl q
  · exact .inr ⟨g, cap, cur, q1, q2, (hb.block g (Array.getElem?_eq_some_iff.1 q3).1).trans q3, q4⟩
theorem own_base {w : World} {B B' : Nat} {e : TypeId} {k n : Nat} {v : Value} {xs : List Value} (h : w.ownsRow B e k v n xs) (hB : B' ≤ B) : w.ownsRow B' e k v n xs := by
  refine ⟨h.1, ?_⟩
  rcases h.2 with q | ⟨g, cap, cur, q1, q2, q3⟩
  · exact .inl q
  · exact .inr ⟨g, cap, cur, q1, Nat.le_trans hB q2, q3⟩
theorem OwnE.later {w w' : World} {B : Nat} {v : Value} {L : List EvP} (h : OwnE w B v L) (hb : Below w.heap.size w w') : OwnE w' B v L := ⟨own_later h.row hb, fun x hx => own_later (h.gone x hx) hb⟩
theorem own_okE {w : World} {B : Nat} {x : EvP} (h : w.ownsRow B 28 2 (.slice x.p x.e.gone.length x.c) x.e.gone.length (dcl x.e.gone)) : x.Ok w := by
  obtain ⟨_, p, cap, e1, _, h1, h2, _⟩ := own_drow h
  injection e1 with e1 _ _
  subst e1
  exact ⟨h1, fun hp => (h2 hp).1⟩
theorem OwnE.at {w : World} {B : Nat} {v : Value} {L : List EvP} (h : OwnE w B v L) : ∃ p c, v = .slice p L.length c ∧ L.length ≤ c ∧ EvsAt w p L ∧ (∀ a, p = some a → ∃ b o, a = ⟨b, o, Option.none⟩) := by
  have hr := h.row
  rcases hr.2 with ⟨rfl, h0⟩ | ⟨g, cap, cur, rfl, hB, hg, hc, hm, hs, ht⟩
  · have : L = [] := List.eq_nil_of_length_eq_zero h0
    subst this
    exact ⟨none, 0, rfl, Nat.le_refl _, ⟨fun hn => absurd rfl hn, fun x hx => by simp at hx, fun _ => rfl⟩, fun a ha => by cases ha⟩
  · refine ⟨some ⟨g, 0, none⟩, cap, rfl, hc, ⟨fun _ => ⟨g, 0, rfl, fun j u hu => ?_⟩, fun x hx => own_okE (h.gone x hx), fun e => by cases e⟩, fun a ha => by obtain rfl := Option.some.inj ha; exact ⟨g, 0, rfl⟩⟩
    have hj : j < L.length * 8 := by rw [← ecl_length]; exact (List.getElem?_eq_some_iff.1 hu).1
    have := hr.cellAt j hj
    rw [Nat.zero_add, this]; exact hu

def CopiedR (w : World) (L : List EvP) (e : Ending) (w' : World) : Prop := ∃ v L', e = .returned v ∧ OwnE w' w.heap.size v L' ∧ evs L' = evs L ∧ Below w.heap.size w w'
end Go.Proofs.YtjmglgcifekhgaaDoor
/- A region that leaves its order open, guarded operations and calls in it: each operation's rule where it comes up (no number of a program stands here). -/
namespace Go.Proofs.YtjmglgcifekhgaaDoor
open Go Go.RowKit
set_option linter.unusedVariables false

section
variable {P : Program} {ops : Array Oper} {o : Oper} {a : Act} {w : World} {Q : Exit → Act → World → Prop} {K : Act → World → Prop} {i : Nat}
theorem wpOp_one (hi : ops[i]? = some o) (hw : Region.wanted o (yielded ops a.tmps) = true) (h : o.wp P a w K Q) : wpOp P ops Q i K a w := by
  unfold wpOp
  rw [hi]
  show if _ then _ else _
  rw [if_pos hw]
  exact Or.inl h
theorem wpOp_runTo (hi : ops[i]? = some o) (hw : Region.wanted o (yielded ops a.tmps) = true) (v : Value) (w' : World) (hrun : (execOp a.eval o).run P w = .ok (.value v) w') (h : K (a.put o.dst v) w') : wpOp P ops Q i K a w := by
  refine wpOp_one hi hw ?_
  unfold Oper.wp
  rw [hrun, Oper.upon_value]
  exact h
theorem wpOp_callG (hi : ops[i]? = some o) (hw : Region.wanted o (yielded ops a.tmps) = true) (f : FuncId) (args : Array Value) {Post : Ending → World → Prop} (hrun : (execOp a.eval o).run P w = .ok (.enter f args) w)
    (hc : Calls P f args w Post) (h : ∀ e w', Post e w' → ∃ v, e = .returned v ∧ K (a.put o.dst v) w') : wpOp P ops Q i K a w := by
  refine wpOp_one hi hw ?_
  unfold Oper.wp
  rw [hrun, Oper.upon_enter]
  exact hc.mono fun e w' he => by obtain ⟨v, rfl, hk⟩ := h _ _ he; exact hk
theorem wpAnyH_pure {md : Region.Mode} {fuel : Nat} {listed : Array Bool} (hi : ops[i]? = some o) (v : Value) (hs : Region.noSelect ops = true) (hf : Region.free md ops listed i = true) (hr : (Region.ready md ops listed).contains i = true)
    (hQ : ∀ c (a : Act) w v, Q (.panic c) (a.put o.dst v) w → Q (.panic c) a w) (hw : Region.wanted o (yielded ops a.tmps) = true) (hrun : ∀ w, (execOp a.eval o).run P w = .ok (.value v) w)
    (h : wpAnyH P md ops Q (fun _ => True) fuel (listed.setIfInBounds i true) (a.put o.dst v) w) : wpAnyH P md ops Q (fun _ => True) (fuel + 1) listed a w :=
  wpAnyH_take (v := v) hi hs hf hr (fun c a w => hQ c a w _) (Or.inl ⟨hw, fun w _ => hrun w⟩) trivial h
theorem wpAnyH_call1 {md : Region.Mode} {fuel : Nat} {listed : Array Bool} (i : Nat) (hr : Region.ready md ops listed = [i]) (hi : ops[i]? = some o) (hw : Region.wanted o (yielded ops a.tmps) = true) (f : FuncId) (args : Array Value) {Post : Ending → World → Prop} (hrun : (execOp a.eval o).run P w = .ok (.enter f args) w)
    (hc : Calls P f args w Post) (h : ∀ e w', Post e w' → ∃ v, e = .returned v ∧ wpAnyH P md ops Q (fun _ => True) fuel (listed.setIfInBounds i true) (a.put o.dst v) w') : wpAnyH P md ops Q (fun _ => True) (fuel + 1) listed a w :=
  wpAnyH_all hr (by simp) fun j hj => by
    obtain rfl := List.mem_singleton.1 hj
    exact wpOp_callG hi hw f args hrun hc fun e w' he => by obtain ⟨v, h1, h2⟩ := h e w' he; exact ⟨v, h1, trivial, h2⟩
theorem wpAnyH_run1 {md : Region.Mode} {fuel : Nat} {listed : Array Bool} (i : Nat) (hr : Region.ready md ops listed = [i]) (hi : ops[i]? = some o) (hw : Region.wanted o (yielded ops a.tmps) = true) (v : Value) (w' : World) (hrun : (execOp a.eval o).run P w = .ok (.value v) w')
    (h : wpAnyH P md ops Q (fun _ => True) fuel (listed.setIfInBounds i true) (a.put o.dst v) w') : wpAnyH P md ops Q (fun _ => True) (fuel + 1) listed a w :=
  wpAnyH_all hr (by simp) fun j hj => by
    obtain rfl := List.mem_singleton.1 hj
    exact wpOp_runTo hi hw v w' hrun ⟨trivial, h⟩
/-- a call or a block made, whichever comes up first -/
theorem wpAnyH_two {md : Region.Mode} {fuel : Nat} {listed : Array Bool} {o2 : Oper} (i j : Nat) (hr : Region.ready md ops listed = [i, j]) (hi : ops[i]? = some o) (hw : Region.wanted o (yielded ops a.tmps) = true) (f : FuncId) (args : Array Value) {Post : Ending → World → Prop} (hrun : (execOp a.eval o).run P w = .ok (.enter f args) w)
    (hc : Calls P f args w Post) (hj : ops[j]? = some o2) (hw2 : Region.wanted o2 (yielded ops a.tmps) = true) (v : Value) (w' : World) (hrun2 : (execOp a.eval o2).run P w = .ok (.value v) w')
    (h : ∀ e w', Post e w' → ∃ v, e = .returned v ∧ wpAnyH P md ops Q (fun _ => True) fuel (listed.setIfInBounds i true) (a.put o.dst v) w')
    (h2 : wpAnyH P md ops Q (fun _ => True) fuel (listed.setIfInBounds j true) (a.put o2.dst v) w') : wpAnyH P md ops Q (fun _ => True) (fuel + 1) listed a w :=
  wpAnyH_all hr (by simp) fun k hk => by
    rcases List.mem_cons.1 hk with rfl | hk
    · exact wpOp_callG hi hw f args hrun hc fun e w' he => by obtain ⟨v, h1, h2⟩ := h e w' he; exact ⟨v, h1, trivial, h2⟩
    · obtain rfl := List.mem_singleton.1 hk
      exact wpOp_runTo hj hw2 v w' hrun2 ⟨trivial, h2⟩
theorem wp_region_free {id n : Nat} (hm : P.follows .mixedOrders = true) (hn : ops.size = n) (h : wpAnyH P .any ops Q (fun _ => True) n (Array.replicate n false) a w.drew) : (Code.region id ops true).wp P Q a w := by
  subst hn
  exact wp_region_held_drew hm trivial fun _ => h
theorem run_value_of {m : Sem Value} {v : Value} {w w' : World} (h : m.run P w = .ok v w') : (do pure (Next.value (← m)) : Sem Next).run P w = .ok (.value v) w' := by
  simp [Sem.run_bind, h, Result.andThen]
end
theorem run_loadAt1 {P : Program} {t : TypeId} {d : TypeDesc} (hu : P.underlying t = some d) (hd : (match d with | .struct _ | .array _ _ => true | _ => false) = false) {w : World} {p : Addr} {v : Value} (h : w.cell? p = some v) :
    (Instr.loadAt t (.pointer (some p))).run P w = .ok v w := by
  unfold Instr.loadAt loadVar
  have hag : (isAgg t).run P w = .ok false w := by
    unfold isAgg
    simp only [Sem.run_bind, run_underlying hu, Result.andThen_ok]
    cases d <;> simp at hd ⊢
  have hs : (Instr.sureAddr (.pointer (some p))).run P w = .ok p w := rfl
  simp only [Sem.run_bind, hs, Result.andThen_ok, hag]
  simp [h]

section
variable {P : Program} {ops : Array Oper} {o : Oper} {a : Act} {w : World} {Q : Exit → Act → World → Prop} {S : World → Prop} {i : Nat} {md : Region.Mode} {fuel : Nat} {listed : Array Bool}
theorem rg_pure (i : Nat) (hi : ops[i]? = some o) (v : Value) (hs : Region.noSelect ops = true) (hf : Region.free md ops listed i = true) (hr : (Region.ready md ops listed).contains i = true)
    (hQ : ∀ c (a : Act) w v, Q (.panic c) (a.put o.dst v) w → Q (.panic c) a w) (hw : Region.wanted o (yielded ops a.tmps) = true) (hrun : ∀ w, (execOp a.eval o).run P w = .ok (.value v) w)
    (hS : S w) (h : wpAnyH P md ops Q S fuel (listed.setIfInBounds i true) (a.put o.dst v) w) : wpAnyH P md ops Q S (fuel + 1) listed a w :=
  wpAnyH_take (v := v) hi hs hf hr (fun c a w => hQ c a w _) (Or.inl ⟨hw, fun w _ => hrun w⟩) hS h
theorem rg_skip (i : Nat) (hi : ops[i]? = some o) (hs : Region.noSelect ops = true) (hf : Region.free md ops listed i = true) (hr : (Region.ready md ops listed).contains i = true)
    (hQ : ∀ c (a : Act) w v, Q (.panic c) (a.put o.dst v) w → Q (.panic c) a w) (hw : Region.wanted o (yielded ops a.tmps) = false)
    (hS : S w) (h : wpAnyH P md ops Q S fuel (listed.setIfInBounds i true) (a.put o.dst undef) w) : wpAnyH P md ops Q S (fuel + 1) listed a w :=
  wpAnyH_take (v := undef) hi hs hf hr (fun c a w => hQ c a w _) (Or.inr ⟨hw, rfl⟩) hS h
theorem rg_load (i : Nat) (hi : ops[i]? = some o) (hs : Region.noSelect ops = true) (hf : Region.free md ops listed i = true) (hr : (Region.ready md ops listed).contains i = true)
    (hQ : ∀ c (a : Act) w v, Q (.panic c) (a.put o.dst v) w → Q (.panic c) a w) (hw : Region.wanted o (yielded ops a.tmps) = true) (t : TypeId) (x : Operand) (ho : o.op = .load t x)
    {d : TypeDesc} (hu : P.underlying t = some d) (hd : (match d with | .struct _ | .array _ _ => true | _ => false) = false) (p : Addr) (v : Value) (hx : a.eval x = .pointer (some p)) (hc : ∀ w, S w → w.cell? p = some v)
    (hS : S w) (h : wpAnyH P md ops Q S fuel (listed.setIfInBounds i true) (a.put o.dst v) w) : wpAnyH P md ops Q S (fuel + 1) listed a w :=
  wpAnyH_take (v := v) hi hs hf hr (fun c a w => hQ c a w _) (Or.inl ⟨hw, fun w hw => by
    unfold execOp
    simp only [ho, hx]
    exact run_value_of (run_loadAt1 hu hd (hc w hw))⟩) hS h
theorem rg_call (i : Nat) (hr : Region.ready md ops listed = [i]) (hi : ops[i]? = some o) (hw : Region.wanted o (yielded ops a.tmps) = true) (f : FuncId) (args : Array Value) {Post : Ending → World → Prop} (hrun : (execOp a.eval o).run P w = .ok (.enter f args) w)
    (hc : Calls P f args w Post) (h : ∀ e w', Post e w' → ∃ v, e = .returned v ∧ S w' ∧ wpAnyH P md ops Q S fuel (listed.setIfInBounds i true) (a.put o.dst v) w') : wpAnyH P md ops Q S (fuel + 1) listed a w :=
  wpAnyH_all hr (by simp) fun j hj => by
    obtain rfl := List.mem_singleton.1 hj
    exact wpOp_callG hi hw f args hrun hc fun e w' he => by obtain ⟨v, h1, h2, h3⟩ := h e w' he; exact ⟨v, h1, h2, h3⟩
theorem rg_run (i : Nat) (hr : Region.ready md ops listed = [i]) (hi : ops[i]? = some o) (hw : Region.wanted o (yielded ops a.tmps) = true) (v : Value) (w' : World) (hrun : (execOp a.eval o).run P w = .ok (.value v) w')
    (hS : S w') (h : wpAnyH P md ops Q S fuel (listed.setIfInBounds i true) (a.put o.dst v) w') : wpAnyH P md ops Q S (fuel + 1) listed a w :=
  wpAnyH_all hr (by simp) fun j hj => by
    obtain rfl := List.mem_singleton.1 hj
    exact wpOp_runTo hi hw v w' hrun ⟨hS, h⟩
/-- an act or a call, whichever comes up first -/
theorem rg_two {o2 : Oper} (i j : Nat) (hr : Region.ready md ops listed = [i, j]) (hi : ops[i]? = some o) (hw : Region.wanted o (yielded ops a.tmps) = true) (v : Value) (w' : World) (hrun : (execOp a.eval o).run P w = .ok (.value v) w')
    (hj : ops[j]? = some o2) (hw2 : Region.wanted o2 (yielded ops a.tmps) = true) (f : FuncId) (args : Array Value) {Post : Ending → World → Prop} (hrun2 : (execOp a.eval o2).run P w = .ok (.enter f args) w) (hc : Calls P f args w Post) (hS : S w')
    (h : wpAnyH P md ops Q S fuel (listed.setIfInBounds i true) (a.put o.dst v) w')
    (h2 : ∀ e w', Post e w' → ∃ v, e = .returned v ∧ S w' ∧ wpAnyH P md ops Q S fuel (listed.setIfInBounds j true) (a.put o2.dst v) w') : wpAnyH P md ops Q S (fuel + 1) listed a w :=
  wpAnyH_all hr (by simp) fun k hk => by
    rcases List.mem_cons.1 hk with rfl | hk
    · exact wpOp_runTo hi hw v w' hrun ⟨hS, h⟩
    · obtain rfl := List.mem_singleton.1 hk
      exact wpOp_callG hj hw2 f args hrun2 hc fun e w' he => by obtain ⟨v, h1, h2, h3⟩ := h2 e w' he; exact ⟨v, h1, h2, h3⟩
/-- a call or an act, whichever comes up first -/
theorem rg_two2 {o2 : Oper} (i j : Nat) (hr : Region.ready md ops listed = [i, j]) (hi : ops[i]? = some o) (hw : Region.wanted o (yielded ops a.tmps) = true) (f : FuncId) (args : Array Value) {Post : Ending → World → Prop} (hrun : (execOp a.eval o).run P w = .ok (.enter f args) w) (hc : Calls P f args w Post)
    (hj : ops[j]? = some o2) (hw2 : Region.wanted o2 (yielded ops a.tmps) = true) (v : Value) (w' : World) (hrun2 : (execOp a.eval o2).run P w = .ok (.value v) w') (hS : S w')
    (h : ∀ e w', Post e w' → ∃ v, e = .returned v ∧ S w' ∧ wpAnyH P md ops Q S fuel (listed.setIfInBounds i true) (a.put o.dst v) w')
    (h2 : wpAnyH P md ops Q S fuel (listed.setIfInBounds j true) (a.put o2.dst v) w') : wpAnyH P md ops Q S (fuel + 1) listed a w :=
  wpAnyH_all hr (by simp) fun k hk => by
    rcases List.mem_cons.1 hk with rfl | hk
    · exact wpOp_callG hi hw f args hrun hc fun e w' he => by obtain ⟨v, h1, h3, h4⟩ := h e w' he; exact ⟨v, h1, h3, h4⟩
    · obtain rfl := List.mem_singleton.1 hk
      exact wpOp_runTo hj hw2 v w' hrun2 ⟨hS, h2⟩
/-- a call or one of two acts, whichever comes up first -/
theorem rg_three {o2 o3 : Oper} (i j k : Nat) (hr : Region.ready md ops listed = [i, j, k]) (hi : ops[i]? = some o) (hw : Region.wanted o (yielded ops a.tmps) = true) (f : FuncId) (args : Array Value) {Post : Ending → World → Prop} (hrun : (execOp a.eval o).run P w = .ok (.enter f args) w) (hc : Calls P f args w Post)
    (hj : ops[j]? = some o2) (hw2 : Region.wanted o2 (yielded ops a.tmps) = true) (v2 : Value) (w2 : World) (hrun2 : (execOp a.eval o2).run P w = .ok (.value v2) w2) (hS2 : S w2)
    (hk : ops[k]? = some o3) (hw3 : Region.wanted o3 (yielded ops a.tmps) = true) (v3 : Value) (w3 : World) (hrun3 : (execOp a.eval o3).run P w = .ok (.value v3) w3) (hS3 : S w3)
    (h : ∀ e w', Post e w' → ∃ v, e = .returned v ∧ S w' ∧ wpAnyH P md ops Q S fuel (listed.setIfInBounds i true) (a.put o.dst v) w')
    (h2 : wpAnyH P md ops Q S fuel (listed.setIfInBounds j true) (a.put o2.dst v2) w2) (h3 : wpAnyH P md ops Q S fuel (listed.setIfInBounds k true) (a.put o3.dst v3) w3) : wpAnyH P md ops Q S (fuel + 1) listed a w :=
  wpAnyH_all hr (by simp) fun m hm => by
    rcases List.mem_cons.1 hm with rfl | hm
    · exact wpOp_callG hi hw f args hrun hc fun e w' he => by obtain ⟨v, h1, h4, h5⟩ := h e w' he; exact ⟨v, h1, h4, h5⟩
    · rcases List.mem_cons.1 hm with rfl | hm
      · exact wpOp_runTo hj hw2 v2 w2 hrun2 ⟨hS2, h2⟩
      · obtain rfl := List.mem_singleton.1 hm
        exact wpOp_runTo hk hw3 v3 w3 hrun3 ⟨hS3, h3⟩
/-- two acts, whichever comes up first -/
theorem rg_acts {o2 : Oper} (i j : Nat) (hr : Region.ready md ops listed = [i, j]) (hi : ops[i]? = some o) (hw : Region.wanted o (yielded ops a.tmps) = true) (v : Value) (w1 : World) (hrun : (execOp a.eval o).run P w = .ok (.value v) w1) (hS : S w1)
    (hj : ops[j]? = some o2) (hw2 : Region.wanted o2 (yielded ops a.tmps) = true) (v2 : Value) (w2 : World) (hrun2 : (execOp a.eval o2).run P w = .ok (.value v2) w2) (hS2 : S w2)
    (h : wpAnyH P md ops Q S fuel (listed.setIfInBounds i true) (a.put o.dst v) w1) (h2 : wpAnyH P md ops Q S fuel (listed.setIfInBounds j true) (a.put o2.dst v2) w2) : wpAnyH P md ops Q S (fuel + 1) listed a w :=
  wpAnyH_all hr (by simp) fun m hm => by
    rcases List.mem_cons.1 hm with rfl | hm
    · exact wpOp_runTo hi hw v w1 hrun ⟨hS, h⟩
    · obtain rfl := List.mem_singleton.1 hm
      exact wpOp_runTo hj hw2 v2 w2 hrun2 ⟨hS2, h2⟩
/-- what a load of one cell runs to -/
theorem exec_load1 (t : TypeId) (x : Operand) (ho : o.op = .load t x) {d : TypeDesc} (hu : P.underlying t = some d) (hd : (match d with | .struct _ | .array _ _ => true | _ => false) = false) (p : Addr) (v : Value) (hx : a.eval x = .pointer (some p)) (hc : w.cell? p = some v) :
    (execOp a.eval o).run P w = .ok (.value v) w := by
  unfold execOp
  simp only [ho, hx]
  exact run_value_of (run_loadAt1 hu hd hc)
/-- an operation that hands nothing back: a store, a copy .. -/
theorem rg_do (i : Nat) (hr : Region.ready md ops listed = [i]) (hi : ops[i]? = some o) (hw : Region.wanted o (yielded ops a.tmps) = true) (w' : World) (hrun : (execOp a.eval o).run P w = .ok .skip w')
    (hS : S w') (h : wpAnyH P md ops Q S fuel (listed.setIfInBounds i true) (a.put o.dst undef) w') : wpAnyH P md ops Q S (fuel + 1) listed a w :=
  wpAnyH_all hr (by simp) fun j hj => by
    obtain rfl := List.mem_singleton.1 hj
    refine wpOp_one hi hw ?_
    unfold Oper.wp
    rw [hrun, Oper.upon_skip]
    exact ⟨hS, h⟩
theorem rg_index (i : Nat) (hi : ops[i]? = some o) (hs : Region.noSelect ops = true) (hf : Region.free md ops listed i = true) (hr : (Region.ready md ops listed).contains i = true)
    (hQ : ∀ c (a : Act) w v, Q (.panic c) (a.put o.dst v) w → Q (.panic c) a w) (hw : Region.wanted o (yielded ops a.tmps) = true) (t : TypeId) (x y : Operand) (ho : o.op = .indexAddr t x y)
    (hu : P.underlying t = some (.slice (P.elem t))) (hsz : ∀ w : World, (sizeOf (P.elem t)).run P w = .ok 1 w) (b f : Nat) (len cap k : Nat) (hx : a.eval x = .slice (some ⟨b, f, none⟩) len cap) (hy : a.eval y = .int .i64 (k : Int)) (hk : k < len)
    (hS : S w) (h : wpAnyH P md ops Q S fuel (listed.setIfInBounds i true) (a.put o.dst (.pointer (some ⟨b, f + k, none⟩))) w) : wpAnyH P md ops Q S (fuel + 1) listed a w :=
  wpAnyH_take (v := .pointer (some ⟨b, f + k, none⟩)) hi hs hf hr (fun c a w => hQ c a w _) (Or.inl ⟨hw, fun w hw => by
    unfold execOp
    simp only [ho, hx, hy]
    refine run_value_of ?_
    rw [run_indexAt_slice (h := hu), if_pos (by omega), hsz]
    simp only [Result.andThen_ok, Int.toNat_natCast, Nat.mul_one]
    cases k <;> simp [Addr.add]⟩) hS h
theorem rg_start {id n : Nat} (hm : P.follows .mixedOrders = true) (hn : ops.size = n) (hS : S w.drew) (h : wpAnyH P .any ops Q S n (Array.replicate n false) a w.drew) : (Code.region id ops true).wp P Q a w := by
  subst hn
  exact wp_region_held_drew hm hS fun _ => h
end
/-- two numbers that are the same -/
theorem exec_eqlI {P : Program} {o : Oper} {a : Act} (t yt : TypeId) (x y : Operand) (ho : o.op = .binOp .eql t x y yt) (X : Int) (hx : a.eval x = .int .i64 X) (hy : a.eval y = .int .i64 X) (w : World) :
    (execOp a.eval o).run P w = .ok (.value (.bool true)) w := by
  unfold execOp
  simp only [ho, hx, hy]
  go_simp
theorem exec_pickT {P : Program} {o : Oper} {a : Act} (c x y : Operand) (ho : o.op = .pick c x y) (v : Value) (hc : a.eval c = .bool true) (hx : a.eval x = v) (w : World) :
    (execOp a.eval o).run P w = .ok (.value v) w := by
  unfold execOp
  simp only [ho, hc, hx]
  rfl
section
variable {P : Program} {ops : Array Oper} {o : Oper} {a : Act} {w : World} {Q : Exit → Act → World → Prop} {S : World → Prop} {i : Nat} {md : Region.Mode} {fuel : Nat} {listed : Array Bool}
/-! the same, the slot written out: what follows is then cheap -/
theorem rgd_pure (i : Nat) (d : Option Tmp) (hi : ops[i]? = some o) (hd : o.dst = d) (v : Value) (hs : Region.noSelect ops = true) (hf : Region.free md ops listed i = true) (hr : (Region.ready md ops listed).contains i = true)
    (hQ : ∀ c (a : Act) w v, Q (.panic c) (a.put d v) w → Q (.panic c) a w) (hw : Region.wanted o (yielded ops a.tmps) = true) (hrun : ∀ w, (execOp a.eval o).run P w = .ok (.value v) w)
    (hS : S w) (h : wpAnyH P md ops Q S fuel (listed.setIfInBounds i true) (a.put d v) w) : wpAnyH P md ops Q S (fuel + 1) listed a w := by
  subst hd; exact rg_pure i hi v hs hf hr hQ hw hrun hS h
theorem rgd_skip (i : Nat) (d : Option Tmp) (hi : ops[i]? = some o) (hd : o.dst = d) (hs : Region.noSelect ops = true) (hf : Region.free md ops listed i = true) (hr : (Region.ready md ops listed).contains i = true)
    (hQ : ∀ c (a : Act) w v, Q (.panic c) (a.put d v) w → Q (.panic c) a w) (hw : Region.wanted o (yielded ops a.tmps) = false)
    (hS : S w) (h : wpAnyH P md ops Q S fuel (listed.setIfInBounds i true) (a.put d undef) w) : wpAnyH P md ops Q S (fuel + 1) listed a w := by
  subst hd; exact rg_skip i hi hs hf hr hQ hw hS h
theorem rgd_load (i : Nat) (d : Option Tmp) (hi : ops[i]? = some o) (hd : o.dst = d) (hs : Region.noSelect ops = true) (hf : Region.free md ops listed i = true) (hr : (Region.ready md ops listed).contains i = true)
    (hQ : ∀ c (a : Act) w v, Q (.panic c) (a.put d v) w → Q (.panic c) a w) (hw : Region.wanted o (yielded ops a.tmps) = true) (t : TypeId) (x : Operand) (ho : o.op = .load t x)
    {e : TypeDesc} (hu : P.underlying t = some e) (he : (match e with | .struct _ | .array _ _ => true | _ => false) = false) (p : Addr) (v : Value) (hx : a.eval x = .pointer (some p)) (hc : ∀ w, S w → w.cell? p = some v)
    (hS : S w) (h : wpAnyH P md ops Q S fuel (listed.setIfInBounds i true) (a.put d v) w) : wpAnyH P md ops Q S (fuel + 1) listed a w := by
  subst hd; exact rg_load i hi hs hf hr hQ hw t x ho hu he p v hx hc hS h
theorem rgd_index (i : Nat) (d : Option Tmp) (hi : ops[i]? = some o) (hd : o.dst = d) (hs : Region.noSelect ops = true) (hf : Region.free md ops listed i = true) (hr : (Region.ready md ops listed).contains i = true)
    (hQ : ∀ c (a : Act) w v, Q (.panic c) (a.put d v) w → Q (.panic c) a w) (hw : Region.wanted o (yielded ops a.tmps) = true) (t : TypeId) (x y : Operand) (ho : o.op = .indexAddr t x y)
    (hu : P.underlying t = some (.slice (P.elem t))) (hsz : ∀ w : World, (sizeOf (P.elem t)).run P w = .ok 1 w) (b f : Nat) (len cap k : Nat) (hx : a.eval x = .slice (some ⟨b, f, none⟩) len cap) (hy : a.eval y = .int .i64 (k : Int)) (hk : k < len)
    (hS : S w) (h : wpAnyH P md ops Q S fuel (listed.setIfInBounds i true) (a.put d (.pointer (some ⟨b, f + k, none⟩))) w) : wpAnyH P md ops Q S (fuel + 1) listed a w := by
  subst hd; exact rg_index i hi hs hf hr hQ hw t x y ho hu hsz b f len cap k hx hy hk hS h
end
end Go.Proofs.YtjmglgcifekhgaaDoor
/- A region that leaves its order open: its steps with the slots written out; what operations run to. No number of a program stands here. (TokRound holds some of these, too: never both in one text.) -/
namespace Go.Proofs.YtjmglgcifekhgaaDoor
open Go Go.RowKit
set_option linter.unusedVariables false

section
variable {P : Program} {ops : Array Oper} {Q' : Exit → Act → World → Prop} {K : Act → World → Prop} {a : Act} {w : World} {S : World → Prop}
/-- THE REGION, whatever stands behind it -/
theorem rg_calm {id m : Nat} (hm : P.follows .mixedOrders = true) (hn : ops.size = m) (h : wpAnyH P .any ops (Exit.then K (fun _ _ _ => False)) S m (Array.replicate m false) a w.drew) : (Code.region id ops true).wp P (Exit.then K Q') a w := by
  subst hn
  refine wp_mono (wp_region_held hm h) ?_
  intro e a w h
  cases e <;> first | exact h | exact h.elim
/-- the region that ends a body -/
theorem rg_last {Q : Exit → Act → World → Prop} {id m : Nat} (hm : P.follows .mixedOrders = true) (hn : ops.size = m) (h : wpAnyH P .any ops (Exit.then (Q .normal) (fun _ _ _ => False)) S m (Array.replicate m false) a w.drew) : (Code.region id ops true).wp P Q a w := by
  subst hn
  refine wp_mono (wp_region_held hm h) ?_
  intro e a w h
  cases e <;> first | exact h | exact h.elim
end
section
variable {P : Program} {o : Oper} {a : Act} {w : World}
theorem exec_cutMid (t : TypeId) (x y z : Operand) (ho : o.op = .slice t x (some y) (some z) none) (ht : P.underlying t = some .string) (s : ByteArray) (J K : Nat) (hx : a.eval x = .string s) (hy : a.eval y = .int .i64 (J : Int)) (hz : a.eval z = .int .i64 (K : Int)) (hJ : J ≤ K) (hK : K ≤ s.size) (w : World) :
    (execOp a.eval o).run P w = .ok (.value (.string (s.extract J K))) w := by
  unfold execOp
  simp only [ho, hx, hy, hz, Option.map_some, Option.map_none]
  refine run_value_of ?_
  rw [run_sliceAt_string (h := ht), run_slice_string (h := ht) (h0 := by omega) (h1 := by omega) (h2 := by omega)]
  rfl
theorem exec_addI (t yt : TypeId) (x y : Operand) (ho : o.op = .binOp .add t x y yt) (X Y R : Int) (hR : IntKind.i64.wrap (X + Y) = R) (hx : a.eval x = .int .i64 X) (hy : a.eval y = .int .i64 Y) (w : World) :
    (execOp a.eval o).run P w = .ok (.value (.int .i64 R)) w := by
  subst hR
  unfold execOp
  simp only [ho, hx, hy]
  rfl
theorem exec_lss (t yt : TypeId) (x y : Operand) (ho : o.op = .binOp .lss t x y yt) (X Y : Int) (b : Bool) (hb : decide (X < Y) = b) (hx : a.eval x = .int .i64 X) (hy : a.eval y = .int .i64 Y) (w : World) :
    (execOp a.eval o).run P w = .ok (.value (.bool b)) w := by
  subst hb
  unfold execOp
  simp only [ho, hx, hy]
  rfl
theorem exec_addS (t yt : TypeId) (x y : Operand) (ho : o.op = .binOp .add t x y yt) (u v : ByteArray) (hx : a.eval x = .string u) (hy : a.eval y = .string v) (hs : u.size + v.size ≤ 9223372036854775807) (w : World) :
    (execOp a.eval o).run P w = .ok (.value (.string (u ++ v))) w := by
  have h := run_string_add_sum (P := P) w u v hs
  unfold execOp
  simp only [ho, hx, hy]
  simp [eqGuard, binOp, h]
theorem exec_is (x : Operand) (ho : o.op = .move x ∨ o.op = .assign x) (v : Value) (hx : a.eval x = v) (w : World) : (execOp a.eval o).run P w = .ok (.value v) w := by
  unfold execOp
  rcases ho with ho | ho <;> simp only [ho, hx] <;> rfl
theorem exec_ext (x : Operand) (i : Nat) (ho : o.op = .extract x i) (vs : Array Value) (v : Value) (hx : a.eval x = .tuple vs) (hv : vs[i]? = some v) (w : World) : (execOp a.eval o).run P w = .ok (.value v) w := by
  unfold execOp
  simp only [ho, hx]
  simp [go_sem, hv]
theorem exec_fieldAt (t : TypeId) (x : Operand) (i : Nat) (ho : o.op = .fieldAddr t x i) (v : Value) (hx : a.eval x = v) (v' : Value) (hr : ∀ w : World, (Instr.fieldAt t v i).run P w = .ok v' w) (w : World) : (execOp a.eval o).run P w = .ok (.value v') w := by
  unfold execOp
  simp only [ho, hx]
  exact run_value_of (hr w)
end
section
variable {P : Program} {ops : Array Oper} {o : Oper} {a : Act} {w : World} {Q : Exit → Act → World → Prop} {S : World → Prop} {md : Region.Mode} {fuel : Nat} {listed : Array Bool}
theorem rgd_call (i : Nat) (d : Option Tmp) (hr : Region.ready md ops listed = [i]) (hi : ops[i]? = some o) (hd : o.dst = d) (hw : Region.wanted o (yielded ops a.tmps) = true) (f : FuncId) (args : Array Value) {Post : Ending → World → Prop} (hrun : (execOp a.eval o).run P w = .ok (.enter f args) w)
    (hc : Calls P f args w Post) (h : ∀ e w', Post e w' → ∃ v, e = .returned v ∧ S w' ∧ wpAnyH P md ops Q S fuel (listed.setIfInBounds i true) (a.put d v) w') : wpAnyH P md ops Q S (fuel + 1) listed a w := by
  subst hd; exact rg_call i hr hi hw f args hrun hc h
theorem rgd_run (i : Nat) (d : Option Tmp) (hr : Region.ready md ops listed = [i]) (hi : ops[i]? = some o) (hd : o.dst = d) (hw : Region.wanted o (yielded ops a.tmps) = true) (v : Value) (w' : World) (hrun : (execOp a.eval o).run P w = .ok (.value v) w')
    (hS : S w') (h : wpAnyH P md ops Q S fuel (listed.setIfInBounds i true) (a.put d v) w') : wpAnyH P md ops Q S (fuel + 1) listed a w := by
  subst hd; exact rg_run i hr hi hw v w' hrun hS h
theorem rgd_do (i : Nat) (d : Option Tmp) (hr : Region.ready md ops listed = [i]) (hi : ops[i]? = some o) (hd : o.dst = d) (hw : Region.wanted o (yielded ops a.tmps) = true) (w' : World) (hrun : (execOp a.eval o).run P w = .ok .skip w')
    (hS : S w') (h : wpAnyH P md ops Q S fuel (listed.setIfInBounds i true) (a.put d undef) w') : wpAnyH P md ops Q S (fuel + 1) listed a w := by
  subst hd; exact rg_do i hr hi hw w' hrun hS h
theorem rgd_two2 {o2 : Oper} (i j : Nat) (d d2 : Option Tmp) (hr : Region.ready md ops listed = [i, j]) (hi : ops[i]? = some o) (hd : o.dst = d) (hw : Region.wanted o (yielded ops a.tmps) = true) (f : FuncId) (args : Array Value) {Post : Ending → World → Prop} (hrun : (execOp a.eval o).run P w = .ok (.enter f args) w) (hc : Calls P f args w Post)
    (hj : ops[j]? = some o2) (hd2 : o2.dst = d2) (hw2 : Region.wanted o2 (yielded ops a.tmps) = true) (v2 : Value) (w2 : World) (hrun2 : (execOp a.eval o2).run P w = .ok (.value v2) w2) (hS : S w2)
    (h : ∀ e w', Post e w' → ∃ v, e = .returned v ∧ S w' ∧ wpAnyH P md ops Q S fuel (listed.setIfInBounds i true) (a.put d v) w')
    (h2 : wpAnyH P md ops Q S fuel (listed.setIfInBounds j true) (a.put d2 v2) w2) : wpAnyH P md ops Q S (fuel + 1) listed a w := by
  subst hd; subst hd2; exact rg_two2 i j hr hi hw f args hrun hc hj hw2 v2 w2 hrun2 hS h h2
/-- an operation whose value hangs on the world, the same in all that meet S -/
theorem rgd_pureS (i : Nat) (d : Option Tmp) (hi : ops[i]? = some o) (hd : o.dst = d) (v : Value) (hs : Region.noSelect ops = true) (hf : Region.free md ops listed i = true) (hr : (Region.ready md ops listed).contains i = true)
    (hQ : ∀ c (a : Act) w v, Q (.panic c) (a.put d v) w → Q (.panic c) a w) (hw : Region.wanted o (yielded ops a.tmps) = true) (hrun : ∀ w, S w → (execOp a.eval o).run P w = .ok (.value v) w)
    (hS : S w) (h : wpAnyH P md ops Q S fuel (listed.setIfInBounds i true) (a.put d v) w) : wpAnyH P md ops Q S (fuel + 1) listed a w := by
  subst hd; exact wpAnyH_take (v := v) hi hs hf hr (fun c a w => hQ c a w _) (Or.inl ⟨hw, hrun⟩) hS h
theorem rgd_acts {o2 : Oper} (i j : Nat) (d d2 : Option Tmp) (hr : Region.ready md ops listed = [i, j]) (hi : ops[i]? = some o) (hd : o.dst = d) (hw : Region.wanted o (yielded ops a.tmps) = true) (v : Value) (w1 : World) (hrun : (execOp a.eval o).run P w = .ok (.value v) w1) (hS : S w1)
    (hj : ops[j]? = some o2) (hd2 : o2.dst = d2) (hw2 : Region.wanted o2 (yielded ops a.tmps) = true) (v2 : Value) (w2 : World) (hrun2 : (execOp a.eval o2).run P w = .ok (.value v2) w2) (hS2 : S w2)
    (h : wpAnyH P md ops Q S fuel (listed.setIfInBounds i true) (a.put d v) w1) (h2 : wpAnyH P md ops Q S fuel (listed.setIfInBounds j true) (a.put d2 v2) w2) : wpAnyH P md ops Q S (fuel + 1) listed a w := by
  subst hd; subst hd2; exact rg_acts i j hr hi hw v w1 hrun hS hj hw2 v2 w2 hrun2 hS2 h h2
end
end Go.Proofs.YtjmglgcifekhgaaDoor
/- past.without: the events that do not go, and the floor. -/
namespace Go.Proofs.YtjmglgcifekhgaaDoor
open Go Go.RowKit
set_option linter.unusedVariables false

section
variable {P : Program} {t : TypeId} {ops : Array Oper} {rest : List Oper} {o : Oper} {a : Act} {w : World} {Q : Exit → Act → World → Prop}
theorem wpList_pbuild (hw : Region.wanted o (yielded ops a.tmps) = true) (parts : Array (Nat × Operand)) (ho : o.op = .build t parts) (cs : Array Value) (hb : (Instr.build t (parts.map fun (i, x) => (i, a.eval x))).run P w = .ok (.agg cs) w)
    (h : wpList P ops Q rest (a.put o.dst (.agg cs)) w) : wpList P ops Q (o :: rest) a w := by
  refine BigFrame.wpList_want hw fun K hK => ?_
  unfold Oper.wp execOp
  simp only [ho, Sem.run_bind, hb, Result.andThen_ok]
  rw [show (pure (Next.value (Value.agg cs)) : Sem Next).run P w = .ok (.value (.agg cs)) w from rfl]
  exact hK _ _ h
end
section
variable {ops : Array Oper} {rest : List Oper} {o : Oper} {a : Act} {Q : Exit → Act → World → Prop}
/-- an event put behind events of one's own -/
theorem wpList_ev (w : World) (hg : o.guard = none) (s x : Operand) (ho : o.op = .call { callee := .builtin .append, args := #[s, x], argTypes := #[34, 34] })
    (B n : Nat) (xs : List Value) (v : Value) (hs : a.eval s = v) (hown : w.ownsRow B 31 8 v n xs) (X : EvP) (hx : a.eval x = .slice (some ⟨w.heap.size, 0, none⟩) 1 1)
    (hlen : n + 1 ≤ 1000000) (hB : B ≤ w.heap.size)
    (h : ∀ v' w', w'.ownsRow B 31 8 v' (n + 1) (xs ++ X.cells) → w.grownBy w' v.ownBlock → wpList Tryd.prog ops Q rest (a.put o.dst v') w') : wpList Tryd.prog ops Q (o :: rest) a (w.alloc (.cells X.cells.toArray 31)) := by
  obtain ⟨i0, hi, hz0, hz1, hz2⟩ := info_parts infoEv
  refine wpList_append_own _ hg s x 34 ho B 31 i0 _ 8 96 Tryd.underlying34 hi hz0 hz1 hz2 rfl (by decide) v n xs hs (hown.alloc _) ⟨w.heap.size, 0, none⟩ 1 1 X.cells hx rfl ?_ X.cells_one (by unfold maxLen; omega) (by omega) (by simp; omega) ?_
  · intro j u hu
    rw [Addr.add_lit, Nat.zero_add, cell_of_row _ w.heap.size j _ _ _ (heap_alloc_new w (.cells X.cells.toArray 31))]
    simpa using hu
  · intro v' w' g1 g2 _
    refine h v' w' g1 ?_
    have g0 := World.grownBy_alloc w (.cells X.cells.toArray 31) v.ownBlock
    exact ⟨g2.os.trans g0.os, g2.tape.trans g0.tape, g2.output.trans g0.output, Nat.le_trans g0.size g2.size, fun i hi hne => (g2.block i (Nat.lt_of_lt_of_le hi g0.size) hne).trans (g0.block i hi hne)⟩
end

/-- nothing that was there has turned but two blocks -/
structure Two (A G : Nat) (W w : World) : Prop where
  os : w.os = W.os
  tape : w.tape = W.tape
  output : w.output = W.output
  size : W.heap.size ≤ w.heap.size
  block : ∀ k, k < W.heap.size → k ≠ A → k ≠ G → w.heap[k]? = W.heap[k]?
theorem Two.refl (A G : Nat) (W : World) : Two A G W W := ⟨rfl, rfl, rfl, Nat.le_refl _, fun _ _ _ _ => rfl⟩
theorem Two.step {A G : Nat} {W w w' : World} (h : Two A G W w) {row : Option Nat} (hg : w.grownBy w' row) (hr : ∀ k, row = some k → k = A ∨ k = G ∨ W.heap.size ≤ k) : Two A G W w' :=
  ⟨hg.os.trans h.os, hg.tape.trans h.tape, hg.output.trans h.output, Nat.le_trans h.size hg.size, fun k hk h1 h2 => (hg.block k (Nat.lt_of_lt_of_le hk h.size) (fun e => by
    rcases hr k e.symm with e | e | e
    · exact h1 e
    · exact h2 e
    · omega)).trans (h.block k hk h1 h2)⟩
theorem Two.below {A G : Nat} {W w w' : World} (h : Two A G W w) (hb : Below w.heap.size w w') : Two A G W w' :=
  ⟨hb.os.trans h.os, hb.tape.trans h.tape, hb.output.trans h.output, Nat.le_trans h.size hb.size, fun k hk h1 h2 => (hb.block k (Nat.lt_of_lt_of_le hk h.size)).trans (h.block k hk h1 h2)⟩
theorem own_blk {w w' : World} {B : Nat} {e : TypeId} {k n : Nat} {v : Value} {xs : List Value} (h : w.ownsRow B e k v n xs) (hb : ∀ b, v.ownBlock = some b → w'.heap[b]? = w.heap[b]?) : w'.ownsRow B e k v n xs := by
  refine ⟨h.1, ?_⟩
  rcases h.2 with q | ⟨g, cap, cur, q1, q2, q3, q4⟩
  · exact .inl q
  · refine .inr ⟨g, cap, cur, q1, q2, ?_, q4⟩
    rw [hb g (by rw [q1]; rfl)]; exact q3
theorem own_grown {w w' : World} {A B : Nat} {e : TypeId} {k n : Nat} {v : Value} {xs : List Value} (h : w.ownsRow B e k v n xs) (hg : w.grownBy w' (some A)) (hA : A < B) : w'.ownsRow B e k v n xs :=
  own_blk h fun b hb => by
    obtain ⟨h1, h2⟩ := h.lt b hb
    exact hg.block b h2 (by simp; omega)
/-- a row of things of another type than block G, of one's own above A, stays -/
theorem Two.own {A G B : Nat} {W w : World} (h : Two A G W w) {e : TypeId} {k n : Nat} {v : Value} {xs : List Value} (hv : W.ownsRow B e k v n xs) (hA : A < B) {cs : Array Value} {T : TypeId} {m : Nat × Nat} (hG : W.heap[G]? = some (.cells cs T m)) (hne : T ≠ e) : w.ownsRow B e k v n xs := by
  refine own_blk hv fun b hb => ?_
  obtain ⟨h1, h2⟩ := hv.lt b hb
  refine h.block b h2 (by omega) (fun e1 => ?_)
  subst e1
  rcases hv.2 with ⟨rfl, _⟩ | ⟨g, cap, cur, rfl, _, hg, _⟩
  · simp [Value.ownBlock] at hb
  · have : g = b := by simpa [Value.ownBlock] using hb
    subst this
    rw [hG] at hg
    injection hg with hg
    injection hg with _ e3 _
    exact hne e3

/-- a closure that tells of events, one by one, which go; what it knows lies in block A -/
structure Goes (F : FuncId) (caps : Array Value) {σ : Type} (goes : σ → Ev → Bool) (next : σ → Ev → σ) (A : Nat) (I : σ → World → Prop) : Prop where
  enter : ∀ args w, (callFunc F args).run Tryd.prog w = .ok (.enter F args) w
  tell : ∀ s (x : EvP) w, I s w → Calls Tryd.prog F (#[.agg x.cells.toArray] ++ caps) w fun e w' => e = .returned (.bool (goes s x.e)) ∧ I (next s x.e) w' ∧ w.grownBy w' (some A)
  keep : ∀ s w w' row, I s w → w.grownBy w' row → row ≠ some A → I s w'
  lt : ∀ s w, I s w → A < w.heap.size
def WithR {σ : Type} (goes : σ → Ev → Bool) (next : σ → Ev → σ) (A : Nat) (I : σ → World → Prop) (w : World) (s : σ) (f : Nat → Int) (l : List Ev) (e : Ending) (w' : World) : Prop :=
  ∃ v K, e = .returned (.agg (pcs v (wRun goes next s f l).2.2)) ∧ OwnE w' w.heap.size v K ∧ evs K = (wRun goes next s f l).2.1 ∧ I (wRun goes next s f l).1 w' ∧ w.grownBy w' (some A)
theorem evs_take_succ (L : List EvP) (j : Nat) (h : j < L.length) : evs (L.take (j + 1)) = evs (L.take j) ++ [L[j].e] := by
  rw [List.take_add_one, List.getElem?_eq_getElem h, evs, List.map_append]; rfl

end Go.Proofs.YtjmglgcifekhgaaDoor
/- past: Trim and Collect. -/
namespace Go.Proofs.YtjmglgcifekhgaaDoor
open Go Go.RowKit
set_option linter.unusedVariables false

/-! What operations run to -/
section
variable {P : Program} {o : Oper} {a : Act} {w : World}
theorem exec_gload (t : TypeId) (x : Operand) (ho : o.op = .load t x) (b c : Nat) (hx : a.eval x = .pointer (some ⟨b, c, none⟩)) (cs : List Value) (hr : w.rangeAt b c cs) {d : TypeDesc} (hu : P.underlying t = some d) (hd : d.isRow = true) (hsz : (P.info? t).map (·.size) = some cs.length) :
    (execOp a.eval o).run P w = .ok (.value (.agg cs.toArray)) w := by
  unfold execOp
  simp only [ho, hx]
  exact run_value_of (run_loadAt_mid w b c t cs d hr hu hd hsz)
theorem exec_subI (t yt : TypeId) (x y : Operand) (ho : o.op = .binOp .sub t x y yt) (X Y R : Int) (hR : IntKind.i64.wrap (X - Y) = R) (hx : a.eval x = .int .i64 X) (hy : a.eval y = .int .i64 Y) (w : World) :
    (execOp a.eval o).run P w = .ok (.value (.int .i64 R)) w := by
  subst hR
  unfold execOp
  simp only [ho, hx, hy]
  rfl
theorem exec_maxI (x y : Operand) (tys : Array TypeId) (ho : o.op = .call { callee := .builtin .max, args := #[x, y], argTypes := tys }) (X Y R : Int) (hR : max X Y = R) (hx : a.eval x = .int .i64 X) (hy : a.eval y = .int .i64 Y) (w : World) :
    (execOp a.eval o).run P w = .ok (.value (.int .i64 R)) w := by
  have e : (#[x, y] : Array Operand).map a.eval = #[.int .i64 X, .int .i64 Y] := by simp only [List.map_toArray, List.map_cons, List.map_nil, hx, hy]
  have hm : (Builtin.max_ tys o.type #[.int .i64 X, .int .i64 Y]).run P w = .ok (.int .i64 R) w := by
    rw [run_max_int2, show (if X < Y then Y else X) = R by split <;> omega]
  unfold execOp
  simp only [ho]
  unfold resolve
  simp only [e]
  simp only [Sem.run_bind, Sem.run_pure, Result.andThen_ok, invoke]
  unfold builtin
  simp only [hm, Sem.run_bind, Sem.run_pure, Result.andThen_ok]
theorem exec_storeI1 (t : TypeId) (x y : Operand) (ho : o.op = .store t x y) (hsz : ∀ w : World, (sizeOf t).run P w = .ok 1 w) (p : Addr) (k : IntKind) (v : Int) (old : Value) (hx : a.eval x = .pointer (some p)) (hy : a.eval y = .int k v)
    (hc : w.cell? p = some old) (hf : w.frozen? p = false) : (execOp a.eval o).run P w = .ok .skip (w.setCell p (.int k v)) := by
  unfold execOp
  simp only [ho, hx, hy]
  have hs := hsz w
  go_simp
end
theorem sizeInt (w : World) : (sizeOf 3).run Tryd.prog w = .ok 1 w := by kernel_rfl
set_option maxRecDepth 1000000 in
theorem allocInt {o : Oper} {a : Act} (ho : o.op = .alloc 3) (w : World) : (execOp a.eval o).run Tryd.prog w = .ok (.value (.pointer (some ⟨w.heap.size, 0, none⟩))) (w.alloc (.cells #[.int .i64 0] 3)) := by
  unfold execOp
  simp only [ho]
  rfl

/-! The closures -/
def InInt (A : Nat) (x : Int) (w : World) : Prop := -9223372036854775808 ≤ x ∧ x ≤ 9223372036854775807 ∧ w.heap[A]? = some (.cells #[.int .i64 x] 3 (0, 0))
def InVec (A : Nat) (v : Nat → Int) (_ : Unit) (w : World) : Prop := Row w A 23 v
end Go.Proofs.YtjmglgcifekhgaaDoor
/- Two dots held against one another; one event in a row of its own. -/
namespace Go.Proofs.YtjmglgcifekhgaaDoor
open Go Go.RowKit
set_option linter.unusedVariables false
set_option maxRecDepth 1000000

theorem to_drew {B : Nat} {w w' : World} (h : Below B w w') : Below B w w'.drew := ⟨h.os, h.tape, h.output, h.size, h.block⟩
def eqDt (x y : Dt) : Bool := x.1 == y.1 && x.2 == y.2
theorem eqDt_iff (x y : Dt) : eqDt x y = true ↔ x = y := by
  simp only [eqDt, Bool.and_eq_true, beq_iff_eq]
  exact ⟨fun h => Prod.ext h.1 h.2, fun h => by subst h; exact ⟨rfl, rfl⟩⟩
theorem eqDt_no {x y : Dt} (h : x ≠ y) : eqDt x y = false := by
  cases e : eqDt x y with
  | false => rfl
  | true => exact absurd ((eqDt_iff x y).1 e) h
theorem runEqDt (x y : Dt) (w : World) : (Op.equalIn 10000 28 (.agg (dcs x.1 x.2)) (.agg (dcs y.1 y.2))).run Tryd.prog w = .ok (eqDt x y) w := by
  have u3 := Tryd.underlying3
  have a3 := Tryd.isAgg3
  have z3 := Tryd.sizeOf3
  have hS : Tryd.prog.underlying 28 = some (.struct (Tryd.prog.fieldsOf 28)) := by kernel_rfl
  have hp : Tryd.prog.stoodInHeld 28 = false := by kernel_rfl
  simp only [dcs]
  rw [show (10000 : Nat) = 9999 + 1 from rfl, run_equalIn_agg w 9999 28 _ _ hS hp]
  simp only [Program.fieldsOf, Tryd.underlying28]
  go_simp
  unfold eqDt
  by_cases h1 : x.fst = y.fst <;> by_cases h2 : x.snd = y.snd <;> simp [h1, h2]
theorem eqlDt (x y : Dt) (w : World) : (binOp .eql 28 (.agg #[.int .i64 x.1, .int .i64 x.2]) (.agg #[.int .i64 y.1, .int .i64 y.2])).run Tryd.prog w = .ok (.bool (eqDt x y)) w := by
  rw [run_eql_struct]
  have h := runEqDt x y w
  simp only [dcs] at h
  rw [h]; rfl
theorem neqDt (x y : Dt) (w : World) : (binOp .neq 28 (.agg #[.int .i64 x.1, .int .i64 x.2]) (.agg #[.int .i64 y.1, .int .i64 y.2])).run Tryd.prog w = .ok (.bool (!eqDt x y)) w := by
  rw [run_neq_struct]
  have h := runEqDt x y w
  simp only [dcs] at h
  rw [h]; rfl
theorem exec_idxD {o : Oper} {a : Act} (x y : Operand) (ho : o.op = .indexAddr 29 x y) (b f len cap k : Nat) (hx : a.eval x = .slice (some ⟨b, f, none⟩) len cap) (hy : a.eval y = .int .i64 (k : Int)) (hk : k < len) (w : World) :
    (execOp a.eval o).run Tryd.prog w = .ok (.value (.pointer (some ⟨b, f + k * 2, none⟩))) w := by
  have hs : ∀ w : World, (sizeOf (Tryd.prog.elem 29)).run Tryd.prog w = .ok 2 w := fun w => by kernel_rfl
  unfold execOp
  simp only [ho, hx, hy]
  refine run_value_of ?_
  rw [run_indexAt_slice (h := Tryd.underlying29), if_pos (by omega), hs]
  simp only [Result.andThen_ok, Int.toNat_natCast]
  cases k <;> simp [Addr.add]
theorem exec_neqD {o : Oper} {a : Act} (t : TypeId) (x y : Operand) (ho : o.op = .binOp .neq 28 x y t) (X : Dt) (hx : a.eval x = .agg #[.int .i64 X.1, .int .i64 X.2]) (hy : a.eval y = .agg #[.int .i64 X.1, .int .i64 X.2]) (w : World) :
    (execOp a.eval o).run Tryd.prog w = .ok (.value (.bool false)) w := by
  have h := neqDt X X w
  rw [(eqDt_iff X X).2 rfl] at h
  simp only [Bool.not_true] at h
  unfold execOp
  simp only [ho, hx, hy]
  refine run_value_of ?_
  rw [Sem.run_bind]
  have hg : (eqGuard .neq 28 x y (.agg #[.int .i64 X.1, .int .i64 X.2]) (.agg #[.int .i64 X.1, .int .i64 X.2])).run Tryd.prog w = .ok () w := by
    unfold eqGuard
    go_simp
  rw [hg]
  exact h
theorem sizeEv (x : EvP) : (Tryd.prog.info? 31).map (·.size) = some x.cells.length := by rw [EvP.cells_len]; kernel_rfl
theorem evs_one {w : World} {g : Nat} {x : EvP} (h : x.Ok w) (hg : w.rangeAt g 0 x.cells) : EvsAt w (some ⟨g, 0, none⟩) [x] :=
  ⟨fun _ => ⟨g, 0, rfl, by simpa [ecl] using hg⟩, fun y hy => by obtain rfl := List.mem_singleton.1 hy; exact h, fun e => by cases e⟩
end Go.Proofs.YtjmglgcifekhgaaDoor
/- two events held against one another, and lists of them. -/
namespace Go.Proofs.YtjmglgcifekhgaaDoor
open Go Go.RowKit
set_option linter.unusedVariables false
set_option maxRecDepth 1000000

theorem exec_neqE {o : Oper} {a : Act} (t : TypeId) (x y : Operand) (ho : o.op = .binOp .neq 28 x y t) (X Y : Dt) (b : Bool) (hb : (!eqDt X Y) = b) (hx : a.eval x = .agg #[.int .i64 X.1, .int .i64 X.2]) (hy : a.eval y = .agg #[.int .i64 Y.1, .int .i64 Y.2]) (w : World) :
    (execOp a.eval o).run Tryd.prog w = .ok (.value (.bool b)) w := by
  subst hb
  have h := neqDt X Y w
  unfold execOp
  simp only [ho, hx, hy]
  refine run_value_of ?_
  rw [Sem.run_bind]
  have hg : (eqGuard .neq 28 x y (.agg #[.int .i64 X.1, .int .i64 X.2]) (.agg #[.int .i64 Y.1, .int .i64 Y.2])).run Tryd.prog w = .ok () w := by
    unfold eqGuard
    go_simp
  rw [hg]
  exact h
theorem drow_at {w : World} {p : Option Addr} {l : List Dt} (h : DRow w p l) {k : Nat} (hk : k < l.length) : ∃ b o, p = some ⟨b, o, Option.none⟩ ∧ w.rangeAt b (o + k * 2) [.int .i64 l[k].1, .int .i64 l[k].2] := by
  have hne : l ≠ [] := by intro e; subst e; simp at hk
  obtain ⟨b, o, rfl, hr⟩ := h hne
  obtain ⟨d1, d2⟩ := dcl_get l k hk
  have r1 := hr _ _ d1; have r2 := hr _ _ d2
  refine ⟨b, o, rfl, fun j u hu => ?_⟩
  match j, hu with
  | 0, hu => simp at hu; subst hu; simpa using r1
  | 1, hu => simp at hu; subst hu; rw [Nat.add_assoc]; exact r2
  | j + 2, hu => simp at hu
end Go.Proofs.YtjmglgcifekhgaaDoor
/- Contracts of bytes.Clone and bytes.Equal over this program, by the bytes that lie there. -/
namespace Go.Proofs.YtjmglgcifekhgaaDoor
open Go Go.RowKit

theorem infoU8 : (Tryd.prog.info? 5).map (fun i => (i.zero, i.size, i.bytes)) = some (some (.int .u8 0), 1, 1) := by kernel_rfl

theorem isU8 : U8 Tryd.prog 41 5 := ⟨Tryd.underlying41, infoU8⟩

end Go.Proofs.YtjmglgcifekhgaaDoor
