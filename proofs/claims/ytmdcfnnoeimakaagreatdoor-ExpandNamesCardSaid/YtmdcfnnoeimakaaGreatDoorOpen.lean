/- What a law's arguments are, as values, when they read as data: numbers, texts, lists of bytes, things, lists of things. -/
import Derived.Test.YtmdcfnnoeimakaaGreatDoorBase
import Derived.ProofKit
import Derived.OpenShut
import Derived.ShutString
import Derived.ChangeOld
import Derived.Deep.Slices
import Derived.Deep.Fields
import Derived.ChangeSame
import Derived.Lib.SmallJoins
import Derived.SizedLaws
namespace Go.Proofs.YtmdcfnnoeimakaaGreatDoor
open Go.ChangeShapes Go.WideShapes Go.ChangeAt Go.RowKit

theorem wf_i64 {n : Int} (h : (Lit.int .i64 n).wf = true) : -9223372036854775808 ≤ n ∧ n ≤ 9223372036854775807 := by
  have := bounds_i64 h
  omega
theorem wf_u8 {n : Int} (h : (Lit.int .u8 n).wf = true) : 0 ≤ n ∧ n < 256 := by
  have := bounds_u8 h
  omega

section
variable {H : Type} {enc : TypeId × Value → H} {P : Program} {W : World} {r : Reach} {b0 : Nat}

theorem open_bytes {t e : TypeId} {v : Value} {d : DataW H} {p : List MemPlace} (ht : P.underlying t = some (.slice e)) (he : P.underlying e = some (.int .u8)) (hC : P.cellsOf e = 1)
    (hv : Value.okWide P W r b0 t v) (h : DataW.Trod enc P W 0 (fun _ => true) true t v d p) :
    ∃ (A : Option Addr) (n c : Nat) (bs : List UInt8), v = .slice A n c ∧ SlB W Any A n bs ∧ n ≤ c ∧ c ≤ maxLen := by
  obtain ⟨A, n, c, rfl⟩ := okWide_slice ht hv
  obtain ⟨fuel, hf⟩ := h
  rcases open_ints ht he hC hf with ⟨hcs, _⟩ | ⟨a, l, cap, zs, hcs, _, hl, hm, hz, hx, hcell, hwz⟩
  · simp [Value.cells] at hcs
    obtain ⟨rfl, rfl, rfl⟩ := hcs
    exact ⟨none, 0, 0, [], rfl, Sl.nil_, Nat.le_refl _, Nat.zero_le _⟩
  · simp [Value.cells] at hcs
    obtain ⟨rfl, rfl, rfl⟩ := hcs
    have hzc : zs.length = c := by simpa using hz
    refine ⟨some a, n, c, (zs.take n).map fun z => UInt8.ofNat z.toNat, rfl, ⟨by simp; omega, fun hn => ⟨a, rfl, trivial, ?_, ?_⟩⟩, hl, hm⟩
    · have := cell_lt (hcell 0 (by omega))
      rwa [add_block] at this
    · intro j u hu
      rw [List.getElem?_map, List.getElem?_map, List.getElem?_take] at hu
      split at hu
      · rename_i hj
        have hjz : j < zs.length := by omega
        rw [List.getElem?_eq_getElem hjz] at hu
        simp only [Option.map_some, Option.some.injEq] at hu
        rw [hcell j hjz, ← hu]
        have hw := wf_u8 (hwz _ (List.getElem_mem hjz))
        have : zs.getD j 0 = zs[j] := by simp [hjz]
        rw [this]
        unfold byteV
        rw [show (UInt8.ofNat (zs[j].toNat)).toNat = zs[j].toNat by simp; omega]
        simp
        omega
      · simp at hu

/-- A thing of layer 1's statements: its kind, its number, its text. -/
structure Th where
  k : UInt8
  n : Int
  s : ByteArray
def Th.cells (t : Th) : List Value := [.int .u8 (t.k.toNat : Int), .int .i64 t.n, .string t.s]
def Th.val (t : Th) : Value := .agg #[.int .u8 (t.k.toNat : Int), .int .i64 t.n, .string t.s]
def Th.ok (t : Th) : Prop := -9223372036854775808 ≤ t.n ∧ t.n ≤ 9223372036854775807 ∧ t.s.size ≤ 140737488351232

def Th.data (t : Th) : DataW H := .agg [.lit (.int .u8 (t.k.toNat : Int)), .lit (.int .i64 t.n), .lit (.string t.s.data.toList)]
theorem mem_weightsAll {e : TypeId} {l : List (DataW H)} {d : DataW H} (h : d ∈ l) {m : Nat} (hm : m ∈ d.weights P e) : m ∈ DataW.weightsAll P e l := by
  induction l with
  | nil => cases h
  | cons a r ih =>
    rw [DataW.weightsAll]
    rcases List.mem_cons.1 h with rfl | h
    · exact List.mem_append_left _ hm
    · exact List.mem_append_right _ (ih h)

/-- The cells of a thing. -/
theorem thing_cells {t : TypeId} {g0 g1 g2 : Field} (ht : P.underlying t = some (.struct #[g0, g1, g2])) (e0 : g0.offset = 0 ∧ g1.offset = 1 ∧ g2.offset = 2)
    (h0 : P.underlying g0.type = some (.int .u8)) (h1 : P.underlying g1.type = some (.int .i64)) (h2 : P.underlying g2.type = some .string)
    (hc : P.cellsOf g0.type = 1 ∧ P.cellsOf g1.type = 1 ∧ P.cellsOf g2.type = 1) (h3 : P.cellsOf t = 3)
    {w : World} {n : Nat} {cs : List Value} {x : DataW H × List MemPlace} (h : DataW.trod enc P w 0 (fun _ => true) true n t cs = some x) :
    ∃ a : Th, ((∀ m ∈ x.1.weights P t, m ≤ reachBytes) → a.ok) ∧ cs = a.cells := by
  obtain ⟨xs, m, _, hxs, hlen, hxl, hg⟩ := DataW.trod_struct ht h
  rw [h3] at hlen
  match cs, hlen with
  | [c0, c1, c2], _ =>
    have q0 := hg 0 g0 rfl
    have q1 := hg 1 g1 rfl
    have q2 := hg 2 g2 rfl
    rw [e0.1, hc.1] at q0
    rw [e0.2.1, hc.2.1] at q1
    rw [e0.2.2, hc.2.2] at q2
    simp only [List.drop_zero, List.drop_succ_cons, List.take_succ_cons, List.take_zero] at q0 q1 q2
    have hx : ∀ (i : Nat) (f : Field), (#[g0, g1, g2] : Array Field)[i]? = some f → ∃ y, xs[i]? = some y := by
      intro i f hf
      have hi : i < 3 := (Array.getElem?_eq_some_iff.1 hf).1
      have hl : xs.length = 3 := hxl
      exact ⟨_, List.getElem?_eq_getElem (by omega)⟩
    obtain ⟨y0, hy0⟩ := hx 0 g0 rfl
    obtain ⟨y1, hy1⟩ := hx 1 g1 rfl
    obtain ⟨y2, hy2⟩ := hx 2 g2 rfl
    obtain ⟨a0, r0, s0, w0⟩ := DataW.trod_int h0 (q0.trans hy0)
    obtain ⟨a1, r1, s1, w1⟩ := DataW.trod_int h1 (q1.trans hy1)
    obtain ⟨a2, r2, s2, w2⟩ := DataW.trod_string h2 (q2.trans hy2)
    simp only [List.cons.injEq, and_true] at r0 r1 r2
    subst r0; subst r1; subst r2
    have b0 := wf_u8 w0
    have b1 := wf_i64 w1
    have hx1 : x.1 = .agg [.lit (.int .u8 a0), .lit (.int .i64 a1), .lit (.string a2.data.toList)] := by
      rw [hxs]
      have e : xs = [y0, y1, y2] := by
        apply List.ext_getElem?
        intro i
        match i with
        | 0 => exact hy0
        | 1 => exact hy1
        | 2 => exact hy2
        | i + 3 =>
          have hl : xs.length = 3 := hxl
          rw [List.getElem?_eq_none (by omega)]
          rfl
      rw [e, s0, s1, s2]
      rfl
    refine ⟨⟨UInt8.ofNat a0.toNat, a1, a2⟩, fun hz => ⟨b1.1, b1.2, ?_⟩, ?_⟩
    · have := hz a2.size (by rw [hx1]; simp [DataW.weights, DataW.weightsEach, ht])
      exact this
    simp only [Th.cells]
    rw [show (UInt8.ofNat a0.toNat).toNat = a0.toNat by simp; omega, show ((a0.toNat : Nat) : Int) = a0 by omega]

theorem open_thing {t : TypeId} {g0 g1 g2 : Field} (ht : P.underlying t = some (.struct #[g0, g1, g2])) (e0 : g0.offset = 0 ∧ g1.offset = 1 ∧ g2.offset = 2)
    (h0 : P.underlying g0.type = some (.int .u8)) (h1 : P.underlying g1.type = some (.int .i64)) (h2 : P.underlying g2.type = some .string)
    (hc : P.cellsOf g0.type = 1 ∧ P.cellsOf g1.type = 1 ∧ P.cellsOf g2.type = 1) (h3 : P.cellsOf t = 3)
    {v : Value} {d : DataW H} {p : List MemPlace} (hv : Value.okWide P W r b0 t v) (h : DataW.Trod enc P W 0 (fun _ => true) true t v d p) (hz : ∀ m ∈ d.weights P t, m ≤ reachBytes) : ∃ a : Th, a.ok ∧ v = a.val := by
  obtain ⟨cs, rfl, _⟩ := okWide_struct ht hv
  obtain ⟨fuel, hf⟩ := h
  obtain ⟨a, ha, hcs⟩ := thing_cells ht e0 h0 h1 h2 hc h3 hf
  refine ⟨a, ha hz, ?_⟩
  simp only [Value.cells] at hcs
  unfold Th.val
  congr 1
  exact Array.toList_inj.1 hcs

/-- The slice reads as the things ts. -/
def SlT (w : World) (S : Nat → Prop) (A : Option Addr) (n : Nat) (ts : List Th) : Prop := Sl w S 3 A n (ts.flatMap Th.cells)

theorem flat_at (ts : List Th) : ∀ (i j : Nat) (a : Th), ts[i]? = some a → j < 3 → (ts.flatMap Th.cells)[i * 3 + j]? = a.cells[j]? := by
  induction ts with
  | nil => intro i j a h; simp at h
  | cons b r ih =>
    intro i j a h hj
    rw [List.flatMap_cons]
    cases i with
    | zero =>
      simp only [List.getElem?_cons_zero, Option.some.injEq] at h
      subst h
      rw [Nat.zero_mul, Nat.zero_add, List.getElem?_append_left (by simp [Th.cells]; omega)]
    | succ i =>
      rw [List.getElem?_cons_succ] at h
      rw [List.getElem?_append_right (by simp [Th.cells]; omega)]
      rw [← ih i j a h hj]
      congr 1
      simp [Th.cells]
      omega
theorem flat_len (ts : List Th) : (ts.flatMap Th.cells).length = ts.length * 3 := by
  induction ts with
  | nil => rfl
  | cons a r ih => rw [List.flatMap_cons, List.length_append, ih]; simp [Th.cells]; omega
theorem SlT.len {w : World} {S : Nat → Prop} {A : Option Addr} {n : Nat} {ts : List Th} (h : SlT w S A n ts) : ts.length = n := by
  have := Sl.len h
  rw [flat_len] at this
  omega
theorem SlT.at_ {w : World} {S : Nat → Prop} {A : Option Addr} {n i : Nat} {ts : List Th} (h : SlT w S A n ts) (hi : i < n) (a : Th) (ha : ts[i]? = some a) :
    ∃ ad, A = some ad ∧ ad.block < w.heap.size ∧ w.cell? (ad.add (i * 3)) = some (.int .u8 (a.k.toNat : Int)) ∧ w.cell? (ad.add (i * 3 + 1)) = some (.int .i64 a.n) ∧ w.cell? (ad.add (i * 3 + 2)) = some (.string a.s) := by
  obtain ⟨ad, e, _, hb, hc⟩ := Sl.cells h (by omega)
  exact ⟨ad, e, hb, hc _ _ (by rw [show i * 3 = i * 3 + 0 from rfl, flat_at ts i 0 a ha (by omega)]; rfl), hc _ _ (by rw [flat_at ts i 1 a ha (by omega)]; rfl), hc _ _ (by rw [flat_at ts i 2 a ha (by omega)]; rfl)⟩

theorem flat_of (f : Nat → Th) (n j : Nat) (u : Value) (h : (((List.range n).map f).flatMap Th.cells)[j]? = some u) : j / 3 < n ∧ (f (j / 3)).cells[j % 3]? = some u := by
  have hl : j < n * 3 := by
    have := (List.getElem?_eq_some_iff.1 h).1
    rw [flat_len] at this
    simpa using this
  have hj : j / 3 < n := by omega
  refine ⟨hj, ?_⟩
  rw [← h, show j = j / 3 * 3 + j % 3 by omega]
  rw [flat_at _ (j / 3) (j % 3) (f (j / 3)) (by simp [hj]) (by omega)]
  rw [show (j / 3 * 3 + j % 3) / 3 = j / 3 by omega, show (j / 3 * 3 + j % 3) % 3 = j % 3 by omega]

theorem open_things {t e : TypeId} {g0 g1 g2 : Field} (hsl : P.underlying t = some (.slice e)) (ht : P.underlying e = some (.struct #[g0, g1, g2])) (e0 : g0.offset = 0 ∧ g1.offset = 1 ∧ g2.offset = 2)
    (h0 : P.underlying g0.type = some (.int .u8)) (h1 : P.underlying g1.type = some (.int .i64)) (h2 : P.underlying g2.type = some .string)
    (hc : P.cellsOf g0.type = 1 ∧ P.cellsOf g1.type = 1 ∧ P.cellsOf g2.type = 1) (h3 : P.cellsOf e = 3)
    {v : Value} {d : DataW H} {p : List MemPlace} (hv : Value.okWide P W r b0 t v) (h : DataW.Trod enc P W 0 (fun _ => true) true t v d p) (hz : ∀ m ∈ d.weights P t, m ≤ reachBytes) :
    ∃ (A : Option Addr) (n c : Nat) (ts : List Th), v = .slice A n c ∧ SlT W Any A n ts ∧ (∀ a ∈ ts, a.ok) ∧ n ≤ c ∧ c ≤ maxLen := by
  obtain ⟨A, n, c, rfl⟩ := okWide_slice hsl hv
  obtain ⟨fuel, hf⟩ := h
  rcases Go.Deep.open_slice hsl hf with ⟨hcs, _⟩ | ⟨a, len, cap, m, q, D, Pl, hcs, hb, hl, hm, hmm, hx, hi⟩
  · simp [Value.cells] at hcs
    obtain ⟨rfl, rfl, rfl⟩ := hcs
    exact ⟨none, 0, 0, [], rfl, Sl.nil_, by simp, Nat.le_refl _, Nat.zero_le _⟩
  · simp [Value.cells] at hcs
    obtain ⟨rfl, rfl, rfl⟩ := hcs
    have hmc : m = c := by simpa using hmm
    subst hmc
    have hx1 : d = .slice ((List.range n).map D) ((List.range (m - n)).map fun j => D (n + j)) := by
      injection hx
    have hth : ∀ i, ∃ b : Th, (i < n → b.ok) ∧ (i < m → W.cells? 0 (a.add (i * 3)) 3 = some b.cells) := by
      intro i
      by_cases him : i < m
      · obtain ⟨cs', hcl, htr⟩ := hi i him
        rw [h3] at hcl
        obtain ⟨b, hbk, rfl⟩ := thing_cells ht e0 h0 h1 h2 hc h3 htr
        refine ⟨b, fun hin => hbk fun q hq => hz q ?_, fun _ => hcl⟩
        rw [hx1]
        simp only [DataW.weights, hsl]
        exact List.mem_cons_of_mem _ (List.mem_append_left _ (mem_weightsAll (List.mem_map.2 ⟨i, List.mem_range.2 hin, rfl⟩) hq))
      · exact ⟨⟨0, 0, ByteArray.empty⟩, fun _ => ⟨by decide, by decide, Nat.zero_le _⟩, fun h => absurd h him⟩
    let f : Nat → Th := fun i => Classical.choose (hth i)
    have hf1 : ∀ i, i < n → (f i).ok := fun i => (Classical.choose_spec (hth i)).1
    have hf2 : ∀ i, i < m → W.cells? 0 (a.add (i * 3)) 3 = some (f i).cells := fun i => (Classical.choose_spec (hth i)).2
    have key : ∀ j u, (((List.range n).map f).flatMap Th.cells)[j]? = some u → W.cell? (a.add j) = some u := by
      intro j u hu
      obtain ⟨hj, hcell⟩ := flat_of f n j u hu
      obtain ⟨_, hcl, hat⟩ := World.cells?_some (hf2 (j / 3) (by omega))
      have := hat (j % 3) (by omega)
      rw [add_add, show j / 3 * 3 + j % 3 = j by omega] at this
      exact this.trans hcell
    refine ⟨some a, n, m, (List.range n).map f, rfl, ⟨by rw [flat_len]; simp, fun hn => ⟨a, rfl, trivial, ?_, key⟩⟩, ?_, hl, hm⟩
    · have := key 0 (.int .u8 ((f 0).k.toNat : Int)) (by
        have := flat_at ((List.range n).map f) 0 0 (f 0) (by simp [hn]) (by omega)
        exact this)
      have := cell_lt this
      rwa [add_block] at this
    · intro b hb
      obtain ⟨i, hir, rfl⟩ := List.mem_map.1 hb
      exact hf1 i (List.mem_range.1 hir)

end
end Go.Proofs.YtmdcfnnoeimakaaGreatDoor
