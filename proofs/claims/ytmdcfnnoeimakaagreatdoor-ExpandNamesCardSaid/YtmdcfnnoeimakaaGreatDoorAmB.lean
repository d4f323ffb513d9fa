/- The abstract machine: memory, structs, slices. -/
import Derived.Test.YtmdcfnnoeimakaaGreatDoorAmA
import Derived.Laws.Entries
import Derived.Laws.CopyRow
import Derived.Laws.BitsLemmas

/- The abstract machine: when a world is as the rows say. -/
namespace Go.Am
set_option linter.unusedVariables false

/-- Where a row lies: the block, the first cell, how many cells from there on may be used, how many cells an element has. -/
structure Loc where
  block : Nat
  base : Nat
  ext : Nat
  esz : Nat

abbrev Env := Nat → Option Loc

mutual
inductive VRel (ρ : Env) : Value → Value → Prop
  | bool (b : Bool) : VRel ρ (.bool b) (.bool b)
  | int (k : IntKind) (n : Int) : VRel ρ (.int k n) (.int k n)
  | string (s : ByteArray) : VRel ρ (.string s) (.string s)
  | ptrNil : VRel ρ (.pointer none) (.pointer none)
  | ptr {r off : Nat} {l : Loc} (h : ρ r = some l) : VRel ρ (.pointer (some ⟨r, off, none⟩)) (.pointer (some ⟨l.block, l.base + off, none⟩))
  | sliceNil : VRel ρ (.slice none 0 0) (.slice none 0 0)
  | slice {r off len cap cap' : Nat} {a : Addr} (hl : len ≤ cap') (hc : cap ≠ openCap → cap' = cap)
      (ha : cap' ≠ 0 → ∃ l, ρ r = some l ∧ a = ⟨l.block, l.base + off, none⟩ ∧ (cap = openCap → off + cap' * l.esz ≤ l.ext ∧ cap' < openCap)) :
      VRel ρ (.slice (some ⟨r, off, none⟩) len cap) (.slice (some a) len cap')
  | mapNil : VRel ρ (.map none) (.map none)
  | map {r : Nat} {l : Loc} (h : ρ r = some l) : VRel ρ (.map (some r)) (.map (some l.block))
  | nilFunc : VRel ρ .nilFunc .nilFunc
  | nilIface : VRel ρ .nilIface .nilIface
  | yield {r : Nat} {l : Loc} (h : ρ r = some l) : VRel ρ (.func (.yield r) #[] #[]) (.func (.yield l.block) #[] #[])
  | func {fn : Fn} {a b c d : Array Value} (hp : plainFn fn = true) (h1 : LRel ρ a.toList b.toList) (h2 : LRel ρ c.toList d.toList) : VRel ρ (.func fn a c) (.func fn b d)
  | iface {t : TypeId} {v u : Value} (h : VRel ρ v u) : VRel ρ (.iface t v) (.iface t u)
  | agg {a b : Array Value} (h : LRel ρ a.toList b.toList) : VRel ρ (.agg a) (.agg b)
  | tuple {a b : Array Value} (h : LRel ρ a.toList b.toList) : VRel ρ (.tuple a) (.tuple b)
  | any (u : Value) : VRel ρ (.chan none) u
inductive LRel (ρ : Env) : List Value → List Value → Prop
  | nil : LRel ρ [] []
  | cons {v u : Value} {vs us : List Value} (h : VRel ρ v u) (hs : LRel ρ vs us) : LRel ρ (v :: vs) (u :: us)
end

def Env.le (ρ ρ' : Env) : Prop := ∀ r l, ρ r = some l → ρ' r = some l
theorem Env.le_refl (ρ : Env) : ρ.le ρ := fun _ _ h => h
theorem Env.le_trans {a b c : Env} (h : a.le b) (k : b.le c) : a.le c := fun r l e => k r l (h r l e)

mutual
theorem VRel.mono {ρ ρ' : Env} (h : ρ.le ρ') : ∀ {v u : Value}, VRel ρ v u → VRel ρ' v u
  | _, _, .bool b => .bool b
  | _, _, .int k n => .int k n
  | _, _, .string s => .string s
  | _, _, .ptrNil => .ptrNil
  | _, _, .ptr e => .ptr (h _ _ e)
  | _, _, .sliceNil => .sliceNil
  | _, _, .slice hl hc ha => .slice hl hc fun hz => let ⟨l, e, rest⟩ := ha hz; ⟨l, h _ _ e, rest⟩
  | _, _, .mapNil => .mapNil
  | _, _, .map e => .map (h _ _ e)
  | _, _, .nilFunc => .nilFunc
  | _, _, .nilIface => .nilIface
  | _, _, .yield e => .yield (h _ _ e)
  | _, _, .func hp a b => .func hp (LRel.mono h a) (LRel.mono h b)
  | _, _, .iface a => .iface (VRel.mono h a)
  | _, _, .agg a => .agg (LRel.mono h a)
  | _, _, .tuple a => .tuple (LRel.mono h a)
  | _, _, .any u => .any u
theorem LRel.mono {ρ ρ' : Env} (h : ρ.le ρ') : ∀ {v u : List Value}, LRel ρ v u → LRel ρ' v u
  | _, _, .nil => .nil
  | _, _, .cons a b => .cons (VRel.mono h a) (LRel.mono h b)
end

section
variable {ρ : Env}
theorem LRel.length : ∀ {vs us : List Value}, LRel ρ vs us → vs.length = us.length
  | _, _, .nil => rfl
  | _, _, .cons _ b => by simp [LRel.length b]
theorem LRel.get : ∀ {vs us : List Value} {i : Nat} {v : Value}, LRel ρ vs us → vs[i]? = some v → ∃ u, us[i]? = some u ∧ VRel ρ v u
  | _, _, i, v, .nil, h => by simp at h
  | _, _, 0, v, .cons a b, h => by simp at h; subst h; exact ⟨_, rfl, a⟩
  | _, _, i + 1, v, .cons a b, h => by simp at h ⊢; exact LRel.get b h
theorem LRel.of_get : ∀ {vs us : List Value}, vs.length = us.length → (∀ (i : Nat) (v : Value), vs[i]? = some v → ∃ u, us[i]? = some u ∧ VRel ρ v u) → LRel ρ vs us
  | [], [], _, _ => .nil
  | [], _ :: _, h, _ => by simp at h
  | _ :: _, [], h, _ => by simp at h
  | v :: vs, u :: us, h, f => by
    obtain ⟨u', e, r⟩ := f 0 v rfl
    simp at e; subst e
    exact .cons r (LRel.of_get (by simpa using h) fun i w e => by simpa using f (i + 1) w (by simpa using e))
theorem LRel.append : ∀ {a b c d : List Value}, LRel ρ a b → LRel ρ c d → LRel ρ (a ++ c) (b ++ d)
  | _, _, _, _, .nil, h => h
  | _, _, _, _, .cons x y, h => .cons x (LRel.append y h)
theorem LRel.take : ∀ {a b : List Value} (n : Nat), LRel ρ a b → LRel ρ (a.take n) (b.take n)
  | _, _, 0, _ => by simp; exact .nil
  | _, _, _ + 1, .nil => .nil
  | _, _, n + 1, .cons x y => .cons x (LRel.take n y)
theorem LRel.drop : ∀ {a b : List Value} (n : Nat), LRel ρ a b → LRel ρ (a.drop n) (b.drop n)
  | _, _, 0, h => by simpa using h
  | _, _, _ + 1, .nil => .nil
  | _, _, n + 1, .cons x y => LRel.drop n y
end

theorem VRel.of_flat {ρ : Env} {v : Value} (h : flat v = true) : VRel ρ v v := by
  cases v with
  | bool b => exact .bool b
  | int k n => exact .int k n
  | string s => exact .string s
  | pointer a => cases a with
    | none => exact .ptrNil
    | some a => simp [flat] at h
  | slice a n c => cases a with
    | none => simp [flat] at h; obtain ⟨rfl, rfl⟩ := h; exact .sliceNil
    | some a => simp [flat] at h
  | map r => cases r with
    | none => exact .mapNil
    | some a => simp [flat] at h
  | nilFunc => exact .nilFunc
  | nilIface => exact .nilIface
  | _ => simp [flat] at h
theorem LRel.of_allFlat {ρ : Env} : ∀ {vs : List Value}, allFlat vs = true → LRel ρ vs vs
  | [], _ => .nil
  | v :: vs, h => by
    simp only [allFlat] at h
    split at h
    · exact .cons (.of_flat (by assumption)) (LRel.of_allFlat h)
    · cases h
theorem VRel.of_plain {ρ : Env} {v : Value} (h : plain v = true) : VRel ρ v v := by
  cases v with
  | agg cs => exact .agg (.of_allFlat h)
  | tuple cs => exact .tuple (.of_allFlat h)
  | iface t v => exact .iface (.of_flat h)
  | _ => exact .of_flat h
theorem undef_rel {ρ : Env} : VRel ρ undef undef := .tuple .nil

/-- The cells of two values that are alike. -/
theorem VRel.cells {ρ : Env} {v u : Value} (h : VRel ρ v u) (hj : isJ v = false) : LRel ρ v.cells.toList u.cells.toList := by
  cases h with
  | agg h => exact h
  | any u => cases hj
  | _ => exact .cons (by constructor <;> assumption) .nil

theorem VRel.one {ρ : Env} {v u : Value} (h : VRel ρ v u) (ho : oneB v = true) : oneB u = true := by
  cases h <;> first | rfl | (simp [oneB] at ho)
theorem isJ_of_one {v : Value} (h : allOne v.cells.toList = true) : isJ v = false := by
  cases v <;> first | rfl | (simp [Value.cells, allOne, oneB] at h)
theorem LRel.one {ρ : Env} : ∀ {vs us : List Value}, LRel ρ vs us → allOne vs = true → allOne us = true
  | _, _, .nil, _ => rfl
  | _, _, .cons a b, h => by
    simp only [allOne] at h ⊢
    split at h
    · rw [VRel.one a (by assumption)]; exact LRel.one b h
    · cases h

/-- Entries of a map that are alike. -/
def ERel (ρ : Env) (es es' : List MapEntry) : Prop :=
  LRel ρ (es.map (·.key)) (es'.map (·.key)) ∧ LRel ρ (es.map (·.val)) (es'.map (·.val)) ∧ es.map (·.born) = es'.map (·.born)

/-- The place fits elements of this type. -/
structure Fits (P : Program) (e : TypeId) (l : Loc) : Prop where
  size : sizeB P e = some l.esz
  home : l.base = 0 ∨ slidB P e = true

/-- A row lies there. -/
def RowRel (P : Program) (ρ : Env) (w : World) (l : Loc) : ARow → Prop
  | .cells e cs => ∃ C f, w.heap[l.block]? = some (.cells C e f) ∧ (f.1 = f.2 ∨ (C.size ≤ f.1 ∧ isU8 P e = true)) ∧ cs.length ≤ l.ext ∧ l.base + l.ext ≤ C.size ∧ Fits P e l ∧
      ∀ i v, cs[i]? = some v → ∃ u, C[l.base + i]? = some u ∧ VRel ρ v u
  | .map es clock => ∃ es', w.heap[l.block]? = some (.map es' clock) ∧ ERel ρ es es'.toList
  | .text s pos => w.heap[l.block]? = some (.stringIter s pos) ∧ l.base = 0
  | .ro cs => l.block < w.heap.size ∧ ∀ i v, cs[i]? = some v → ∃ u, w.cell? ⟨l.block, l.base + i, none⟩ = some u ∧ VRel ρ v u
  | .iter m since seen last => l.base = 0 ∧ ∃ lm, ρ m = some lm ∧ w.heap[l.block]? = some (.mapIter (some lm.block) since ⟨seen⟩ last)
  | .loop p => ∃ fn us D, w.heap[l.block]? = some (.loop { state := p.state, pending := p.pending, fn := fn, tmps := us, params := ⟨p.params⟩, assign := p.assign, body := p.body, defers := D }) ∧ LRel ρ p.slots us.toList
  | .glob g cs => (l.block = g ∧ l.base = 0) ∧ l.block < w.heap.size ∧ (cs ≠ [] → ∃ e f, w.heap[l.block]? = some (.cells ⟨cs⟩ e f))

structure HRel (P : Program) (ρ : Env) (h : AW) (w : World) : Prop where
  loc : ∀ r row, h.get r = some row → ∃ l, ρ r = some l ∧ RowRel P ρ w l row
  inj : ∀ r r' row row' l l', h.get r = some row → h.get r' = some row' → ρ r = some l → ρ r' = some l' → l.block = l'.block → row.own = true ∨ row'.own = true → r = r'
  fresh : ∀ j, ρ (h.next + h.step * j) = none
  step : 0 < h.step

/-- What has become of the world: of what no row of h lies in nothing has turned, and what rows lie in now is theirs or new. -/
structure Turn (ρ : Env) (h : AW) (w : World) (ρ' : Env) (h' : AW) (w' : World) : Prop where
  le : ρ.le ρ'
  os : w'.os = w.os
  tape : w'.tape = w.tape
  output : w'.output = w.output
  size : w.heap.size ≤ w'.heap.size
  own : ∀ r row l, h'.get r = some row → row.own = true → ρ' r = some l → l.block < w.heap.size → ∃ r₀ row₀ l₀, h.get r₀ = some row₀ ∧ row₀.own = true ∧ ρ r₀ = some l₀ ∧ l₀.block = l.block
  keep : ∀ k, k < w.heap.size → (∀ r row l, h.get r = some row → row.own = true → ρ r = some l → l.block ≠ k) → w'.heap[k]? = w.heap[k]?
  new : ∀ r l, ρ' r = some l → ρ r = some l ∨ ∃ j, r = h.next + h.step * j
  next : ∃ j, h'.next = h.next + h.step * j
  steps : h'.step = h.step

theorem Turn.refl (ρ : Env) (h : AW) (w : World) : Turn ρ h w ρ h w :=
  ⟨Env.le_refl _, rfl, rfl, rfl, Nat.le_refl _, fun r row l hr ho hl _ => ⟨r, row, l, hr, ho, hl, rfl⟩, fun _ _ _ => rfl, fun _ _ e => .inl e, ⟨0, by simp⟩, rfl⟩

theorem Turn.trans {ρ₁ ρ₂ ρ₃ : Env} {h₁ h₂ h₃ : AW} {w₁ w₂ w₃ : World} (a : Turn ρ₁ h₁ w₁ ρ₂ h₂ w₂) (b : Turn ρ₂ h₂ w₂ ρ₃ h₃ w₃) : Turn ρ₁ h₁ w₁ ρ₃ h₃ w₃ := by
  refine ⟨Env.le_trans a.le b.le, b.os.trans a.os, b.tape.trans a.tape, b.output.trans a.output, Nat.le_trans a.size b.size, ?_, ?_, ?_, ?_, b.steps.trans a.steps⟩
  · intro r row l hr ho hl hlt
    obtain ⟨r₀, row₀, l₀, x, xo, y, z⟩ := b.own r row l hr ho hl (Nat.lt_of_lt_of_le hlt a.size)
    obtain ⟨r₁, row₁, l₁, x', xo', y', z'⟩ := a.own r₀ row₀ l₀ x xo y (by rw [z]; exact hlt)
    exact ⟨r₁, row₁, l₁, x', xo', y', z'.trans z⟩
  · intro k hk hn
    rw [b.keep k (Nat.lt_of_lt_of_le hk a.size) (fun r row l hr ho hl he => ?_), a.keep k hk hn]
    obtain ⟨r₁, row₁, l₁, x', xo', y', z'⟩ := a.own r row l hr ho hl (by rw [he]; exact hk)
    exact hn r₁ row₁ l₁ x' xo' y' (z'.trans he)
  · intro r l e
    rcases b.new r l e with e | ⟨j, rfl⟩
    · exact a.new r l e
    · obtain ⟨i, hi⟩ := a.next
      exact .inr ⟨i + j, by rw [hi, a.steps, Nat.mul_add, Nat.add_assoc]⟩
  · obtain ⟨i, hi⟩ := a.next
    obtain ⟨j, hj⟩ := b.next
    exact ⟨i + j, by rw [hj, hi, a.steps, Nat.mul_add, Nat.add_assoc]⟩

/-! ### The tree of rows -/
section
variable {α : Type}
theorem Tr.get_nil (n : Nat) : (Tr.nil : Tr α).get n = none := rfl
theorem beq_false {a b : Nat} (h : a ≠ b) : Nat.beq a b = false := by
  cases e : Nat.beq a b with
  | false => rfl
  | true => exact absurd (Nat.eq_of_beq_eq_true e) h
theorem beq_true {a b : Nat} (h : a = b) : Nat.beq a b = true := by subst h; exact Nat.beq_refl a
theorem of_beq {a b : Nat} (h : Nat.beq a b = true) : a = b := Nat.eq_of_beq_eq_true h
theorem of_beq_f {a b : Nat} (h : Nat.beq a b = false) : a ≠ b := by rintro rfl; rw [Nat.beq_refl] at h; cases h
theorem of_ble {a b : Nat} (h : Nat.ble a b = true) : a ≤ b := Nat.le_of_ble_eq_true h
theorem of_ble_f {a b : Nat} (h : Nat.ble a b = false) : b < a := by
  rcases Nat.lt_or_ge b a with h' | h'
  · exact h'
  · rw [Nat.ble_eq_true_of_le h'] at h; cases h
theorem Tr.get_node (l r : Tr α) (v : Option α) (n : Nat) : (Tr.node l v r).get n = if n = 0 then v else if n % 2 = 1 then l.get (n / 2) else r.get (n / 2 - 1) := by
  rw [Tr.get_node_eq]
  by_cases h : n = 0
  · subst h; simp
  · rw [beq_false h, if_neg h]
    by_cases h2 : n % 2 = 1
    · simp only [beq_true h2, if_pos h2]
    · simp only [beq_false h2, if_neg h2]

theorem Tr.get_set : ∀ (f : Nat) (t t' : Tr α) (n : Nat) (x : Option α), Tr.set f t n x = some t' → ∀ m, t'.get m = if m = n then x else t.get m
  | 0, _, _, _, _, h => by simp [Tr.set_zero_eq] at h
  | f + 1, .nil, t', n, x, h => by
    intro m
    rw [Tr.set_nil_eq] at h
    by_cases hn : n = 0
    · subst hn
      simp only [Option.some.injEq] at h
      subst h
      rw [Tr.get_node]; simp [Tr.get_nil]
    · simp only [beq_false hn] at h
      by_cases h2 : n % 2 = 1
      · simp only [beq_true h2] at h
        split at h
        · rename_i l e
          simp only [Option.some.injEq] at h
          subst h
          have ih := Tr.get_set f _ _ _ _ e
          rw [Tr.get_node, ih, Tr.get_nil]
          by_cases hm : m = n
          · subst hm; simp [hn, h2]
          · rw [if_neg hm]
            by_cases hm0 : m = 0
            · simp [hm0, Tr.get_nil]
            · by_cases hm2 : m % 2 = 1
              · have : m / 2 ≠ n / 2 := by omega
                simp [hm0, hm2, this, Tr.get_nil]
              · simp [hm0, hm2, Tr.get_nil]
        · cases h
      · simp only [beq_false h2] at h
        split at h
        · rename_i l e
          simp only [Option.some.injEq] at h
          subst h
          have ih := Tr.get_set f _ _ _ _ e
          rw [Tr.get_node, ih, Tr.get_nil]
          by_cases hm : m = n
          · subst hm; simp [hn, h2]
          · rw [if_neg hm]
            by_cases hm0 : m = 0
            · simp [hm0, Tr.get_nil]
            · by_cases hm2 : m % 2 = 1
              · simp [hm0, hm2, Tr.get_nil]
              · have : m / 2 - 1 ≠ n / 2 - 1 := by omega
                simp [hm0, hm2, this, Tr.get_nil]
        · cases h
  | f + 1, .node l v r, t', n, x, h => by
    intro m
    rw [Tr.set_node_eq] at h
    by_cases hn : n = 0
    · subst hn
      simp only [Option.some.injEq] at h
      subst h
      rw [Tr.get_node, Tr.get_node]
      by_cases hm : m = 0 <;> simp [hm]
    · simp only [beq_false hn] at h
      by_cases h2 : n % 2 = 1
      · simp only [beq_true h2] at h
        split at h
        · rename_i l e
          simp only [Option.some.injEq] at h
          subst h
          have ih := Tr.get_set f _ _ _ _ e
          rw [Tr.get_node, ih, Tr.get_node]
          by_cases hm : m = n
          · subst hm; simp [hn, h2]
          · rw [if_neg hm]
            by_cases hm0 : m = 0
            · simp [hm0]
            · by_cases hm2 : m % 2 = 1
              · have : m / 2 ≠ n / 2 := by omega
                simp [hm0, hm2, this]
              · simp [hm0, hm2]
        · cases h
      · simp only [beq_false h2] at h
        split at h
        · rename_i l e
          simp only [Option.some.injEq] at h
          subst h
          have ih := Tr.get_set f _ _ _ _ e
          rw [Tr.get_node, ih, Tr.get_node]
          by_cases hm : m = n
          · subst hm; simp [hn, h2]
          · rw [if_neg hm]
            by_cases hm0 : m = 0
            · simp [hm0]
            · by_cases hm2 : m % 2 = 1
              · simp [hm0, hm2]
              · have : m / 2 - 1 ≠ n / 2 - 1 := by omega
                simp [hm0, hm2, this]
        · cases h
end
end Go.Am

/- The abstract machine: what becomes of the memory at a new row, at a row that is written, at one that is given up. -/
namespace Go.Am
set_option linter.unusedVariables false

/-! ### Reading the functions of AmA -/
theorem takeB_eq : ∀ {xs : List Value} {n : Nat} {ys : List Value}, takeB xs n = some ys → ys = xs.take n ∧ n ≤ xs.length
  | xs, 0, ys, h => by
    cases xs <;> simp [takeB] at h <;> subst h <;> simp
  | [], n + 1, ys, h => by simp [takeB] at h
  | x :: xs, n + 1, ys, h => by
    simp only [takeB] at h
    split at h
    · rename_i zs e
      obtain ⟨rfl, hl⟩ := takeB_eq e
      simp at h
      subst h
      exact ⟨rfl, by simp; omega⟩
    · cases h
theorem cut_eq : ∀ {xs : List Value} {off n : Nat} {ys : List Value}, cut xs off n = some ys → ys = (xs.drop off).take n ∧ (n = 0 ∨ off + n ≤ xs.length) ∧ ys.length = n ∧ off ≤ xs.length
  | xs, 0, n, ys, h => by
    have h' : takeB xs n = some ys := by cases xs <;> simpa [cut] using h
    obtain ⟨rfl, hl⟩ := takeB_eq h'
    exact ⟨rfl, .inr (by omega), by simp; omega, by omega⟩
  | [], off + 1, n, ys, h => by simp [cut] at h
  | x :: xs, off + 1, n, ys, h => by
    simp only [cut] at h
    obtain ⟨a, b, c, d⟩ := cut_eq h
    exact ⟨by simpa using a, by simp; omega, c, by simp; omega⟩
theorem over_eq : ∀ {xs vs ys : List Value}, over xs vs = some ys → ys = vs ++ xs.drop vs.length ∧ vs.length ≤ xs.length
  | xs, [], ys, h => by
    have : xs = ys := by cases xs <;> simpa [over] using h
    subst this; simp
  | [], _ :: _, ys, h => by simp [over] at h
  | x :: xs, v :: vs, ys, h => by
    simp only [over] at h
    split at h
    · rename_i zs e
      obtain ⟨rfl, hl⟩ := over_eq e
      simp at h
      subst h
      exact ⟨by simp, by simp; omega⟩
    · cases h
theorem lay_eq : ∀ {xs : List Value} {off : Nat} {vs ys : List Value}, lay xs off vs = some ys → ys = xs.take off ++ (vs ++ xs.drop (off + vs.length)) ∧ off + vs.length ≤ xs.length
  | xs, 0, vs, ys, h => by
    have h' : over xs vs = some ys := by cases xs <;> simpa [lay] using h
    obtain ⟨rfl, hl⟩ := over_eq h'
    exact ⟨by simp, by omega⟩
  | [], off + 1, vs, ys, h => by simp [lay] at h
  | x :: xs, off + 1, vs, ys, h => by
    simp only [lay] at h
    split at h
    · rename_i zs e
      obtain ⟨rfl, hl⟩ := lay_eq e
      simp at h
      subst h
      refine ⟨by simp [Nat.add_right_comm], by simp; omega⟩
    · cases h
theorem lay_length {xs vs ys : List Value} {off : Nat} (h : lay xs off vs = some ys) : ys.length = xs.length := by
  obtain ⟨rfl, hl⟩ := lay_eq h
  simp; omega
theorem lay_get {xs vs ys : List Value} {off : Nat} (h : lay xs off vs = some ys) (i : Nat) : ys[i]? = if off ≤ i ∧ i < off + vs.length then vs[i - off]? else xs[i]? := by
  obtain ⟨rfl, hl⟩ := lay_eq h
  have htl : (xs.take off).length = off := by simp; omega
  by_cases h1 : i < off
  · rw [if_neg (by omega), List.getElem?_append_left (by omega), List.getElem?_take]
    simp [h1]
  · by_cases h2 : i < off + vs.length
    · rw [if_pos ⟨by omega, h2⟩, List.getElem?_append_right (by omega), htl, List.getElem?_append_left (by omega)]
    · rw [if_neg (by omega), List.getElem?_append_right (by omega), htl, List.getElem?_append_right (by omega), List.getElem?_drop]
      congr 1; omega
theorem join_eq {α : Type} : ∀ {xs ys zs : List α}, join xs ys = some zs → zs = xs ++ ys
  | [], ys, zs, h => by simp [join] at h; simp [h]
  | x :: xs, ys, zs, h => by
    simp only [join] at h
    split at h
    · rename_i ws e
      simp at h; subst h
      simp [join_eq e]
    · cases h
theorem fn_eq {n m : Nat} (h : fn n = some m) : m = n := by cases n <;> simp [fn] at h <;> omega
theorem fi_eq {n m : Int} (h : fi n = some m) : m = n := by
  cases n with
  | ofNat k =>
    simp only [fi] at h
    split at h
    · rename_i e; have := fn_eq e; subst this; simpa using h.symm
    · cases h
  | negSucc k =>
    simp only [fi] at h
    split at h
    · rename_i e; have := fn_eq e; subst this; simpa using h.symm
    · cases h
theorem fa_eq {a b : Addr} (h : fa a = some b) : b = a := by
  obtain ⟨bl, o, s⟩ := a
  cases s with
  | some s => simp [fa] at h
  | none =>
    simp only [fa] at h
    split at h
    · rename_i e1 e2; have := fn_eq e1; have := fn_eq e2; subst_vars; simpa using h.symm
    · cases h
theorem fv_eq {v u : Value} (h : fv v = some u) : u = v := by
  cases v with
  | bool b => cases b <;> simp [fv] at h <;> exact h.symm
  | int k n =>
    simp only [fv] at h
    split at h
    · rename_i e; have := fi_eq e; subst this; simpa using h.symm
    · cases h
  | pointer a => cases a with
    | none => simp [fv] at h; exact h.symm
    | some a =>
      simp only [fv] at h
      split at h
      · rename_i e; have := fa_eq e; subst this; simpa using h.symm
      · cases h
  | slice a l c =>
    simp only [fv] at h
    split at h
    · rename_i e1 e2
      have h1 := fn_eq e1; have h2 := fn_eq e2
      cases a with
      | none => simp at h; rw [← h, h1, h2]
      | some a =>
        simp only at h
        split at h
        · rename_i e; have h3 := fa_eq e; simp at h; rw [← h, h1, h2, h3]
        · cases h
    · cases h
  | _ => simp [fv] at h; exact h.symm

/-! ### The rows -/
section
variable {h h' : AW} {r : Nat}
theorem put_eq {x : Option ARow} (e : h.put r x = some h') : (∀ m, h'.get m = if m = r then x else h.get m) ∧ h'.next = h.next ∧ h'.step = h.step := by
  unfold AW.put at e
  split at e
  · rename_i t et
    simp at e; subst e
    exact ⟨Tr.get_set _ _ _ _ _ et, rfl, rfl⟩
  · cases e
theorem new_eq {x : ARow} (e : h.new x = some (r, h')) : r = h.next ∧ (∀ m, h'.get m = if m = r then some x else h.get m) ∧ h'.next = h.next + h.step ∧ h'.step = h.step := by
  unfold AW.new at e
  split at e
  · rename_i t n et en
    have := fn_eq en
    simp at e
    obtain ⟨rfl, rfl⟩ := e
    exact ⟨rfl, Tr.get_set _ _ _ _ _ et, this, rfl⟩
  · cases e
theorem getRow_eq {e : TypeId} {cs : List Value} (g : getRow h r = some (e, cs)) : h.get r = some (.cells e cs) := by
  unfold getRow at g
  split at g
  · rename_i he
    simp at g
    obtain ⟨rfl, rfl⟩ := g
    exact he
  · cases g
end

/-! ### Worlds -/
section
variable {P : Program} {ρ ρ' : Env} {h h' : AW} {w w' : World}

theorem RowRel.keep {l : Loc} {row : ARow} (hr : RowRel P ρ w l row) (le : ρ.le ρ') (hw : w'.heap[l.block]? = w.heap[l.block]?) : RowRel P ρ' w' l row := by
  cases row with
  | cells e cs =>
    obtain ⟨C, f, a, b, c, d, s, g⟩ := hr
    exact ⟨C, f, hw.trans a, b, c, d, s, fun i v hv => let ⟨u, x, y⟩ := g i v hv; ⟨u, x, y.mono le⟩⟩
  | map es clock =>
    obtain ⟨es', a, x, y, z⟩ := hr
    exact ⟨es', hw.trans a, x.mono le, y.mono le, z⟩
  | text s pos => exact ⟨hw.trans hr.1, hr.2⟩
  | ro cs =>
    refine ⟨?_, fun i v hv => let ⟨u, x, y⟩ := hr.2 i v hv; ⟨u, ?_, y.mono le⟩⟩
    · rcases Nat.lt_or_ge l.block w'.heap.size with h' | h'
      · exact h'
      · rw [Array.getElem?_eq_none h', Array.getElem?_eq_getElem hr.1] at hw; cases hw
    · rw [← x]; simp only [World.cell?, hw]
  | iter m since seen last =>
    obtain ⟨hb, lm, hm, hh⟩ := hr
    exact ⟨hb, lm, le _ _ hm, hw.trans hh⟩
  | loop p => obtain ⟨fn, us, D, a, b⟩ := hr; exact ⟨fn, us, D, hw.trans a, b.mono le⟩
  | glob g cs =>
    obtain ⟨h0, h1, h2⟩ := hr
    refine ⟨h0, ?_, fun hc => ?_⟩
    · rcases Nat.lt_or_ge l.block w'.heap.size with h' | h'
      · exact h'
      · rw [Array.getElem?_eq_none h', Array.getElem?_eq_getElem h1] at hw; cases hw
    · obtain ⟨e, f, h3⟩ := h2 hc
      exact ⟨e, f, hw.trans h3⟩

theorem RowRel.lt {l : Loc} {row : ARow} (hr : RowRel P ρ w l row) : l.block < w.heap.size := by
  cases row with
  | cells e cs => obtain ⟨C, f, a, _⟩ := hr; exact (Array.getElem?_eq_some_iff.1 a).1
  | map es clock => obtain ⟨es', a, _⟩ := hr; exact (Array.getElem?_eq_some_iff.1 a).1
  | text s pos => exact (Array.getElem?_eq_some_iff.1 hr.1).1
  | ro cs => exact hr.1
  | glob g cs => exact hr.2.1
  | iter m since seen last => obtain ⟨_, lm, _, hh⟩ := hr; exact (Array.getElem?_eq_some_iff.1 hh).1
  | loop p => obtain ⟨fn, us, D, a, _⟩ := hr; exact (Array.getElem?_eq_some_iff.1 a).1

theorem HRel.at_read {r : Nat} {cs : List Value} (H : HRel P ρ h w) (g : readRow h r = some cs) :
    ∃ l, ρ r = some l ∧ ∀ i v, cs[i]? = some v → ∃ u, w.cell? ⟨l.block, l.base + i, none⟩ = some u ∧ VRel ρ v u := by
  unfold readRow at g
  split at g
  · rename_i e cs' he
    simp at g; subst g
    obtain ⟨l, hl, C, f, a, b, c, d, s, rel⟩ := H.loc r _ he
    refine ⟨l, hl, fun i v hv => ?_⟩
    obtain ⟨u, x, y⟩ := rel i v hv
    exact ⟨u, by simp [World.cell?, a, x], y⟩
  · rename_i cs' he
    simp at g; subst g
    obtain ⟨l, hl, _, rel⟩ := H.loc r _ he
    exact ⟨l, hl, rel⟩
  · cases g

/-- The cells that stand for these, as the world has them. -/
theorem cells_there {b o : Nat} : ∀ {vs : List Value}, (∀ (i : Nat) (v : Value), vs[i]? = some v → ∃ u, w.cell? ⟨b, o + i, none⟩ = some u ∧ VRel ρ v u) → ∃ us, LRel ρ vs us ∧ ∀ (j : Nat) (u : Value), us[j]? = some u → w.cell? ⟨b, o + j, none⟩ = some u := by
  intro vs
  induction vs generalizing o with
  | nil => intro _; exact ⟨[], .nil, fun j u hu => by simp at hu⟩
  | cons v vs ih =>
    intro hc
    obtain ⟨u, hu, hv⟩ := hc 0 v rfl
    obtain ⟨us, hr, hus⟩ := ih (o := o + 1) (fun i x hx => by
      have := hc (i + 1) x (by simpa using hx)
      rwa [show o + (i + 1) = o + 1 + i by omega] at this)
    refine ⟨u :: us, .cons hv hr, fun j x hx => ?_⟩
    cases j with
    | zero => simp at hx; subst hx; exact hu
    | succ j => simp at hx; have := hus j x hx; rwa [show o + 1 + j = o + (j + 1) by omega] at this

theorem HRel.at_fits {r : Nat} {e : TypeId} {cs : List Value} (H : HRel P ρ h w) (g : getRow h r = some (e, cs)) :
    ∃ l C f, ρ r = some l ∧ w.heap[l.block]? = some (.cells C e f) ∧ (f.1 = f.2 ∨ C.size ≤ f.1) ∧ cs.length ≤ l.ext ∧ l.base + l.ext ≤ C.size ∧ Fits P e l ∧
      ∀ i v, cs[i]? = some v → ∃ u, C[l.base + i]? = some u ∧ VRel ρ v u := by
  obtain ⟨l, hl, C, f, r1, r2, rest⟩ := H.loc r _ (getRow_eq g)
  exact ⟨l, C, f, hl, r1, r2.imp id (·.1), rest⟩
/-- Of what is no byte nothing is frozen. -/
theorem HRel.at_plain {r : Nat} {e : TypeId} {cs : List Value} (H : HRel P ρ h w) (g : getRow h r = some (e, cs)) (hu : isU8 P e = false) :
    ∃ l C f, ρ r = some l ∧ w.heap[l.block]? = some (.cells C e f) ∧ f.1 = f.2 ∧ cs.length ≤ l.ext ∧ l.base + l.ext ≤ C.size ∧ Fits P e l := by
  obtain ⟨l, hl, C, f, r1, r2, r3, r4, r5, _⟩ := H.loc r _ (getRow_eq g)
  exact ⟨l, C, f, hl, r1, r2.elim id (fun hh => by rw [hu] at hh; cases hh.2), r3, r4, r5⟩

theorem HRel.at_cells {r : Nat} {e : TypeId} {cs : List Value} (H : HRel P ρ h w) (g : getRow h r = some (e, cs)) :
    ∃ l C f, ρ r = some l ∧ w.heap[l.block]? = some (.cells C e f) ∧ (f.1 = f.2 ∨ C.size ≤ f.1) ∧ cs.length ≤ l.ext ∧ l.base + l.ext ≤ C.size ∧ sizeB P e = some l.esz ∧
      ∀ i v, cs[i]? = some v → ∃ u, C[l.base + i]? = some u ∧ VRel ρ v u := by
  obtain ⟨l, hl, C, f, r1, r2, r3, r4, r5, r6⟩ := H.loc r _ (getRow_eq g)
  exact ⟨l, C, f, hl, r1, r2.imp id (·.1), r3, r4, r5.size, r6⟩

theorem frozen_no {b o : Nat} {C : Array Value} {e : TypeId} {f : Nat × Nat} (hb : w.heap[b]? = some (.cells C e f)) (hf : f.1 = f.2 ∨ C.size ≤ f.1) (ho : o < C.size) : w.frozen? ⟨b, o, none⟩ = false := by
  obtain ⟨lo, hi⟩ := f
  simp only [World.frozen?, hb, Bool.and_eq_false_iff, decide_eq_false_iff_not]
  simp only at hf
  omega

theorem add_eq (b o n : Nat) : (⟨b, o, none⟩ : Addr).add n = ⟨b, o + n, none⟩ := by unfold Addr.add; split <;> simp_all

theorem run_storeCells_am (b o : Nat) (e : TypeId) (f : Nat × Nat) : ∀ (vs : List Value) (i : Nat) (C : Array Value) (w : World), w.heap[b]? = some (.cells C e f) → (f.1 = f.2 ∨ C.size ≤ f.1) → o + i + vs.length ≤ C.size → allOne vs = true →
    ∃ C', (storeCells ⟨b, o, none⟩ vs i).run P w = .ok () (w.setRow b C') ∧ C'.size = C.size ∧ ∀ j, C'[j]? = if o + i ≤ j ∧ j < o + i + vs.length then vs[j - (o + i)]? else C[j]?
  | [], i, C, w, hb, _, _, _ => by
    refine ⟨C, ?_, rfl, fun j => by rw [if_neg (by simp)]⟩
    rw [setRow_self w b C e f hb]; rfl
  | v :: rest, i, C, w, hb, hf, hl, h1 => by
    simp only [allOne] at h1
    split at h1
    case h_2 => cases h1
    rename_i hv
    have hi : o + i < C.size := by simp at hl; omega
    have hcell : w.cell? ⟨b, o + i, none⟩ = some C[o + i] := by simp [World.cell?, hb, hi]
    have hv' : v.oneCell' = true := by cases v <;> first | rfl | (simp [oneB] at hv)
    have hst : (store ((⟨b, o, none⟩ : Addr).add i) v).run P w = .ok () (w.setRow b (C.setIfInBounds (o + i) v)) := by
      rw [add_eq, run_store P w _ v _ hv', hcell]
      simp [frozen_no hb hf hi, setCell_eq_setRow w b (o + i) C e f v hb]
    obtain ⟨C', hr, hs, hg⟩ := run_storeCells_am b o e f rest (i + 1) (C.setIfInBounds (o + i) v) (w.setRow b (C.setIfInBounds (o + i) v)) (setRow_heap w b C _ e _ hb) (by simpa using hf) (by simp at hl ⊢; omega) h1
    refine ⟨C', by simp only [storeCells, Sem.run_bind, hst, Result.andThen_ok, hr, setRow_setRow], by simpa using hs, fun j => ?_⟩
    rw [hg j]
    by_cases hj : j = o + i
    · subst hj
      rw [if_neg (by omega), if_pos ⟨by omega, by simp⟩]
      simp [hi]
    · by_cases hj2 : o + (i + 1) ≤ j ∧ j < o + (i + 1) + rest.length
      · rw [if_pos hj2, if_pos ⟨by omega, by simp; omega⟩]
        have : j - (o + i) = (j - (o + (i + 1))) + 1 := by omega
        rw [this]; simp
      · rw [if_neg hj2, if_neg (by simp; omega)]
        rw [Array.getElem?_setIfInBounds, if_neg (by omega)]

theorem run_loadCells_am {b o n : Nat} {C : Array Value} {e : TypeId} {f : Nat × Nat} (hb : w.heap[b]? = some (.cells C e f)) (hl : o + n ≤ C.size) : ∃ cs : List Value, cs.length = n ∧ (loadCells ⟨b, o, none⟩ n).run P w = .ok ⟨cs⟩ w ∧ ∀ j, j < n → cs[j]? = C[o + j]? := by
  refine ⟨(C.toList.drop o).take n, by simp; omega, ?_, fun j hj => ?_⟩
  · have := run_loadCells_list (P := P) w ⟨b, o, none⟩ ((C.toList.drop o).take n) (fun j v hv => ?_)
    · have hn : ((C.toList.drop o).take n).length = n := by simp; omega
      rw [hn] at this
      exact this
    · rw [add_eq, show w.cell? ⟨b, o + j, none⟩ = C[o + j]? by simp [World.cell?, hb]]
      rw [List.getElem?_take] at hv
      split at hv
      · simpa using hv
      · cases hv
  · rw [List.getElem?_take, if_pos hj]; simp

theorem run_loadCells_list' {b o n : Nat} {C : Array Value} {e : TypeId} {f : Nat × Nat} (hb : w.heap[b]? = some (.cells C e f)) (hl : o + n ≤ C.size) : (loadCells ⟨b, o, none⟩ n).run P w = .ok ⟨(C.toList.drop o).take n⟩ w := by
  have := run_loadCells_list (P := P) w ⟨b, o, none⟩ ((C.toList.drop o).take n) (fun j v hv => ?_)
  · have hn : ((C.toList.drop o).take n).length = n := by simp; omega
    rw [hn] at this
    exact this
  · rw [add_eq, show w.cell? ⟨b, o + j, none⟩ = C[o + j]? by simp [World.cell?, hb]]
    rw [List.getElem?_take] at hv
    split at hv
    · simpa using hv
    · cases hv

/-- The row that stands at a new number. -/
def upd (ρ : Env) (r : Nat) (l : Loc) : Env := fun x => if x = r then some l else ρ x
theorem upd_le {r : Nat} {l : Loc} (hr : ρ r = none) : ρ.le (upd ρ r l) := by
  intro x m hx
  unfold upd
  split
  · subst_vars; rw [hr] at hx; cases hx
  · exact hx

theorem HRel.fresh0 (H : HRel P ρ h w) : ρ h.next = none := by simpa using H.fresh 0
theorem HRel.no_row (H : HRel P ρ h w) : h.get h.next = none := by
  cases e : h.get h.next with
  | none => rfl
  | some row =>
    obtain ⟨l, hl, _⟩ := H.loc _ _ e
    rw [H.fresh0] at hl; cases hl
theorem fresh_upd {r : Nat} {l : Loc} (H : HRel P ρ h w) (hr : r = h.next) (hn : h'.next = h.next + h.step) (hs : h'.step = h.step) (j : Nat) : upd ρ r l (h'.next + h'.step * j) = none := by
  unfold upd
  have hp := H.step
  rw [hn, hs, hr, if_neg (by have := Nat.zero_le (h.step * j); omega)]
  have := H.fresh (j + 1)
  rw [Nat.mul_add, Nat.mul_one] at this
  rwa [Nat.add_assoc, Nat.add_comm h.step]

/-- A new row, in a new block. -/
theorem HRel.new_block {r : Nat} {x : ARow} {l : Loc} (H : HRel P ρ h w) (e : h.new x = some (r, h')) (hl : l.block = w.heap.size)
    (os : w'.os = w.os) (tape : w'.tape = w.tape) (out : w'.output = w.output) (hsz : w'.heap.size = w.heap.size + 1) (old : ∀ k, k < w.heap.size → w'.heap[k]? = w.heap[k]?)
    (hx : RowRel P (upd ρ r l) w' l x) : HRel P (upd ρ r l) h' w' ∧ Turn ρ h w (upd ρ r l) h' w' := by
  obtain ⟨hr, hg, hn, hs⟩ := new_eq e
  have hnone : ρ r = none := by rw [hr]; exact H.fresh0
  have le := upd_le (l := l) hnone
  refine ⟨⟨?_, ?_, fresh_upd H hr hn hs, by rw [hs]; exact H.step⟩, ⟨le, os, tape, out, by omega, ?_, fun k hk _ => old k hk, ?_, ⟨1, by rw [hn]; omega⟩, hs⟩⟩
  · intro m row hm
    rw [hg] at hm
    split at hm
    · simp at hm; subst hm; subst_vars
      exact ⟨l, by simp [upd], hx⟩
    · rename_i hne
      obtain ⟨l', hl', hr'⟩ := H.loc m row hm
      exact ⟨l', le _ _ hl', hr'.keep le (old _ hr'.lt)⟩
  · intro a b rowa rowb la lb ha hb hla hlb hab hown
    rw [hg] at ha hb
    unfold upd at hla hlb
    by_cases h1 : a = r
    · by_cases h2 : b = r
      · omega
      · rw [if_pos h1] at hla; rw [if_neg h2] at hlb hb
        simp at hla; subst hla
        obtain ⟨l', hl', hr'⟩ := H.loc b rowb hb
        rw [hl'] at hlb; simp at hlb; subst hlb
        have := hr'.lt; omega
    · by_cases h2 : b = r
      · rw [if_neg h1] at hla ha; rw [if_pos h2] at hlb
        simp at hlb; subst hlb
        obtain ⟨l', hl', hr'⟩ := H.loc a rowa ha
        rw [hl'] at hla; simp at hla; subst hla
        have := hr'.lt; omega
      · rw [if_neg h1] at hla ha; rw [if_neg h2] at hlb hb
        exact H.inj a b rowa rowb la lb ha hb hla hlb hab hown
  · intro m row lm hm hmo hlm hlt
    rw [hg] at hm
    unfold upd at hlm
    by_cases h1 : m = r
    · rw [if_pos h1] at hlm; simp at hlm; subst hlm; omega
    · rw [if_neg h1] at hlm hm
      exact ⟨m, row, lm, hm, hmo, hlm, rfl⟩
  · intro m lm hlm
    unfold upd at hlm
    split at hlm
    · exact .inr ⟨0, by simp; omega⟩
    · exact .inl hlm

/-- The cells of a row are written. -/
theorem HRel.write {r : Nat} {e : TypeId} {cs cs' : List Value} {l : Loc} {C C' : Array Value} {f : Nat × Nat} (H : HRel P ρ h w) (g : getRow h r = some (e, cs)) (hl : ρ r = some l)
    (hb : w.heap[l.block]? = some (.cells C e f)) (hp : h.put r (some (.cells e cs')) = some h') (hs : C'.size = C.size) (hlen : cs'.length = cs.length)
    (rel : ∀ i v, cs'[i]? = some v → ∃ u, C'[l.base + i]? = some u ∧ VRel ρ v u) : HRel P ρ h' (w.setRow l.block C') ∧ Turn ρ h w ρ h' (w.setRow l.block C') := by
  obtain ⟨hg, hn, hst⟩ := put_eq hp
  have hrow := getRow_eq g
  have other : ∀ k, k ≠ l.block → (w.setRow l.block C').heap[k]? = w.heap[k]? := fun k hk => by
    simp only [World.setRow, Array.getElem?_modify]; rw [if_neg (by omega)]
  refine ⟨⟨?_, ?_, by rw [hn, hst]; exact H.fresh, by rw [hst]; exact H.step⟩, ⟨Env.le_refl _, rfl, rfl, rfl, by simp [World.setRow], ?_, ?_, fun _ _ x => .inl x, ⟨0, by rw [hn]; simp⟩, hst⟩⟩
  · intro m row hm
    rw [hg] at hm
    split at hm
    · simp at hm; subst hm; subst_vars
      obtain ⟨l', hl', C0, f0, a, b, c, d, s, _⟩ := H.loc _ _ hrow
      rw [hl] at hl'; simp at hl'; subst hl'
      rw [hb] at a; simp at a; obtain ⟨rfl, rfl⟩ := a
      exact ⟨l, hl, C', f, setRow_heap w _ _ _ _ _ hb, by rw [hs]; exact b, by omega, by omega, s, rel⟩
    · rename_i hne
      obtain ⟨l', hl', hr'⟩ := H.loc m row hm
      refine ⟨l', hl', hr'.keep (Env.le_refl _) (other _ fun hh => hne (H.inj m r row _ l' l hm hrow hl' hl hh (.inr rfl)))⟩
  · intro a b rowa rowb la lb ha hb' hla hlb hab hown
    rw [hg] at ha hb'
    have ha' : ∃ rowa', h.get a = some rowa' ∧ (rowa.own = true → rowa'.own = true) := by
      split at ha
      · subst_vars; exact ⟨_, hrow, fun _ => rfl⟩
      · exact ⟨_, ha, id⟩
    have hb'' : ∃ rowb', h.get b = some rowb' ∧ (rowb.own = true → rowb'.own = true) := by
      split at hb'
      · subst_vars; exact ⟨_, hrow, fun _ => rfl⟩
      · exact ⟨_, hb', id⟩
    obtain ⟨_, ha', oa⟩ := ha'
    obtain ⟨_, hb'', ob⟩ := hb''
    exact H.inj a b _ _ la lb ha' hb'' hla hlb hab (hown.imp oa ob)
  · intro m row lm hm hmo hlm _
    rw [hg] at hm
    split at hm
    · subst_vars; exact ⟨_, _, _, hrow, rfl, hlm, rfl⟩
    · exact ⟨m, row, lm, hm, hmo, hlm, rfl⟩
  · intro k hk hno
    exact other k fun hh => hno r _ l hrow rfl hl hh.symm

/-- Fewer rows. -/
theorem HRel.drop {r : Nat} (H : HRel P ρ h w) (hp : h.put r none = some h') : HRel P ρ h' w ∧ Turn ρ h w ρ h' w := by
  obtain ⟨hg, hn, hst⟩ := put_eq hp
  have sub : ∀ m row, h'.get m = some row → h.get m = some row := fun m row hm => by
    rw [hg] at hm; split at hm
    · cases hm
    · exact hm
  exact ⟨⟨fun m row hm => H.loc m row (sub m row hm), fun a b x y la lb ha hb => H.inj a b x y la lb (sub _ _ ha) (sub _ _ hb), by rw [hn, hst]; exact H.fresh, by rw [hst]; exact H.step⟩,
    ⟨Env.le_refl _, rfl, rfl, rfl, Nat.le_refl _, fun m row l hm ho hl _ => ⟨m, row, l, sub _ _ hm, ho, hl, rfl⟩, fun _ _ _ => rfl, fun _ _ x => .inl x, ⟨0, by rw [hn]; simp⟩, hst⟩⟩

/-- A row goes on in its block under another number, its cells written. -/
theorem HRel.move {r r' : Nat} {e : TypeId} {cs cs' : List Value} {l l' : Loc} {C C' : Array Value} {f : Nat × Nat} {h₀ : AW} (H : HRel P ρ h w) (g : getRow h r = some (e, cs)) (hl : ρ r = some l)
    (hb : w.heap[l.block]? = some (.cells C e f)) (hp : h.put r none = some h₀) (hnew : h₀.new (.cells e cs') = some (r', h')) (hs : C'.size = C.size) (hl' : l'.block = l.block)
    (h1 : cs'.length ≤ l'.ext) (h2 : l'.base + l'.ext ≤ C.size) (h3 : l'.esz = l.esz) (h4 : l'.base = l.base ∨ slidB P e = true)
    (rel : ∀ i v, cs'[i]? = some v → ∃ u, C'[l'.base + i]? = some u ∧ VRel ρ v u) : HRel P (upd ρ r' l') h' (w.setRow l.block C') ∧ Turn ρ h w (upd ρ r' l') h' (w.setRow l.block C') := by
  obtain ⟨hg₀, hn₀, hst₀⟩ := put_eq hp
  obtain ⟨hr', hg, hn, hst⟩ := new_eq hnew
  have hrow := getRow_eq g
  have hnone : ρ r' = none := by rw [hr', hn₀]; exact H.fresh0
  have le := upd_le (l := l') hnone
  have other : ∀ k, k ≠ l.block → (w.setRow l.block C').heap[k]? = w.heap[k]? := fun k hk => by
    simp only [World.setRow, Array.getElem?_modify]; rw [if_neg (by omega)]
  have sub : ∀ m row, h'.get m = some row → m ≠ r' → h.get m = some row ∧ m ≠ r := fun m row hm hne => by
    rw [hg, if_neg hne, hg₀] at hm
    split at hm
    · cases hm
    · exact ⟨hm, by assumption⟩
  refine ⟨⟨?_, ?_, fun j => ?_, by rw [hst, hst₀]; exact H.step⟩, ⟨le, rfl, rfl, rfl, by simp [World.setRow], ?_, ?_, ?_, ⟨1, by rw [hn, hn₀, hst₀]; omega⟩, by rw [hst, hst₀]⟩⟩
  · intro m row hm
    by_cases hne : m = r'
    · rw [hg, if_pos hne] at hm
      simp at hm; subst hm; subst hne
      obtain ⟨l₁, hl₁, C0, f0, a, b, c, d, s, _⟩ := H.loc _ _ hrow
      rw [hl] at hl₁; simp at hl₁; subst hl₁
      rw [hb] at a; simp at a; obtain ⟨rfl, rfl⟩ := a
      refine ⟨l', by simp [upd], C', f, ?_, by rw [hs]; exact b, h1, by omega, ⟨by rw [h3]; exact s.size, h4.elim (fun q => by rw [q]; exact s.home) .inr⟩, fun i v hv => let ⟨u, x, y⟩ := rel i v hv; ⟨u, x, y.mono le⟩⟩
      rw [hl']; exact setRow_heap w _ _ _ _ _ hb
    · obtain ⟨hm', hne'⟩ := sub m row hm hne
      obtain ⟨l₁, hl₁, hr₁⟩ := H.loc m row hm'
      exact ⟨l₁, le _ _ hl₁, hr₁.keep le (other _ fun hh => hne' (H.inj m r row _ l₁ l hm' hrow hl₁ hl hh (.inr rfl)))⟩
  · intro a b rowa rowb la lb ha hb' hla hlb hab hown
    have key : ∀ m row lm, h'.get m = some row → upd ρ r' l' m = some lm → m ≠ r' → lm.block ≠ l.block := fun m row lm hm hlm hne hh => by
      obtain ⟨hm', hne'⟩ := sub m row hm hne
      unfold upd at hlm; rw [if_neg hne] at hlm
      exact hne' (H.inj m r row _ lm l hm' hrow hlm hl hh (.inr rfl))
    by_cases h1 : a = r'
    · by_cases h2 : b = r'
      · omega
      · have hbb := key b rowb lb hb' hlb h2
        unfold upd at hla; rw [if_pos h1] at hla; simp at hla; subst hla
        exact absurd (hab.symm.trans hl') hbb
    · by_cases h2 : b = r'
      · have haa := key a rowa la ha hla h1
        unfold upd at hlb; rw [if_pos h2] at hlb; simp at hlb; subst hlb
        exact absurd (hab.trans hl') haa
      · obtain ⟨ha', _⟩ := sub a rowa ha h1
        obtain ⟨hb'', _⟩ := sub b rowb hb' h2
        unfold upd at hla hlb; rw [if_neg h1] at hla; rw [if_neg h2] at hlb
        exact H.inj a b _ _ la lb ha' hb'' hla hlb hab hown
  · have := fresh_upd (P := P) (l := l') (h := h₀) (h' := h') (H.drop hp).1 hr' hn hst j
    exact this
  · intro m row lm hm hmo hlm _
    by_cases hne : m = r'
    · unfold upd at hlm; rw [if_pos hne] at hlm; simp at hlm; subst hlm
      exact ⟨r, _, l, hrow, rfl, hl, hl'.symm⟩
    · obtain ⟨hm', _⟩ := sub m row hm hne
      unfold upd at hlm; rw [if_neg hne] at hlm
      exact ⟨m, row, lm, hm', hmo, hlm, rfl⟩
  · intro k hk hno
    exact other k fun hh => hno r _ l hrow rfl hl hh.symm
  · intro m lm hlm
    unfold upd at hlm
    split at hlm
    · exact .inr ⟨0, by simp; omega⟩
    · exact .inl hlm
end
end Go.Am

/- The abstract machine: loads, stores, new rows. -/
namespace Go.Am
set_option linter.unusedVariables false
section
variable {P : Program} {ρ : Env} {h h' : AW} {w : World}

theorem aev_rel {a : Slots} {act : Act} (hs : LRel ρ a act.tmps.toList) {x : Operand} {v : Value} (e : aev a x = some v) : VRel ρ v (act.eval x) := by
  cases x with
  | tmp t =>
    obtain ⟨u, hu, hr⟩ := hs.get e
    have : act.eval (.tmp t) = u := by
      simp only [Act.eval]
      rw [Array.getD_eq_getD_getElem?, ← Array.getElem?_toList, hu]; rfl
    rw [this]; exact hr
  | const c =>
    simp only [aev] at e
    split at e
    · simp at e; subst e; exact .of_plain (by assumption)
    · cases e
  | global g => simp [aev] at e
  | func f =>
    simp [aev] at e; subst e
    exact .func rfl .nil .nil

theorem evs_rel {a : Slots} {act : Act} (hs : LRel ρ a act.tmps.toList) : ∀ {xs : List Operand} {vs : List Value}, evs a xs = some vs → LRel ρ vs (xs.map act.eval)
  | [], vs, e => by simp [evs] at e; subst e; exact .nil
  | x :: xs, vs, e => by
    simp only [evs] at e
    split at e
    · rename_i v ev
      split at e
      · rename_i us eu
        simp at e; subst e
        exact .cons (aev_rel hs ev) (evs_rel hs eu)
      · cases e
    · cases e

theorem run_isAgg {t : TypeId} {b : Bool} (e : isAggB P t = some b) (w : World) : (isAgg t).run P w = .ok b w := by
  unfold isAggB at e
  cases hu : P.underlying t with
  | none => simp [hu] at e
  | some d => cases d <;> simp [hu] at e <;> subst e <;> simp [isAgg, run_underlying hu]

theorem info_of_size {t : TypeId} {n : Nat} (e : sizeB P t = some n) : ∃ i, P.info? t = some i ∧ i.size = n := by
  unfold sizeB at e
  split at e
  · rename_i i hi; simp at e; exact ⟨i, hi, e⟩
  · cases e
theorem run_typeInfo {t : TypeId} {i : TypeInfo} (hi : P.info? t = some i) (w : World) : (typeInfo t).run P w = .ok i w := by simp [typeInfo, hi]
theorem run_size {t : TypeId} {n : Nat} (e : sizeB P t = some n) (w : World) : (sizeOf t).run P w = .ok n w := by
  obtain ⟨i, hi, rfl⟩ := info_of_size e
  simp [sizeOf, run_typeInfo hi]

theorem run_part {t : TypeId} {cs : List Value} {cs' : Array Value} {off : Nat} {v : Value} (e : partB P t cs off = some v) (hr : LRel ρ cs cs'.toList) (w : World) :
    ∃ v', (part t cs' off).run P w = .ok v' w ∧ VRel ρ v v' := by
  unfold partB at e
  split at e
  · rename_i ha
    split at e
    · rename_i n hn
      split at e
      · rename_i vs hc
        simp at e; subst e
        obtain ⟨rfl, hl, _, _⟩ := cut_eq hc
        refine ⟨.agg (cs'.extract off (off + n)), by simp [part, run_isAgg ha, run_size hn], .agg ?_⟩
        have : (cs'.extract off (off + n)).toList = (cs'.toList.drop off).take n := by simp [List.extract_eq_take_drop]
        rw [this]
        exact (hr.drop off).take n
      · cases e
    · cases e
  · rename_i ha
    obtain ⟨u, hu, hv⟩ := hr.get e
    rw [Array.getElem?_toList] at hu
    exact ⟨u, by simp [part, run_isAgg ha, hu], hv⟩
  · cases e

theorem run_loadVar {t : TypeId} {r off : Nat} {cs : List Value} {l : Loc} {v : Value} (H : HRel P ρ h w) (g : readRow h r = some cs) (hl : ρ r = some l) (e : partB P t cs off = some v) :
    ∃ v', (loadVar t ⟨l.block, l.base + off, none⟩).run P w = .ok v' w ∧ VRel ρ v v' := by
  obtain ⟨l', hl', rel⟩ := H.at_read g
  rw [hl] at hl'; simp at hl'; subst hl'
  unfold partB at e
  split at e
  · rename_i ha
    split at e
    · rename_i n hn
      split at e
      · rename_i vs hc
        simp at e; subst e
        obtain ⟨rfl, hle, hlen, hoff⟩ := cut_eq hc
        obtain ⟨us, hur, hus⟩ := cells_there (w := w) (ρ := ρ) (b := l.block) (o := l.base + off) (vs := (cs.drop off).take n) (fun i x hx => by
          rw [List.getElem?_take] at hx
          split at hx
          · rw [List.getElem?_drop] at hx
            obtain ⟨u, hu, hv⟩ := rel _ _ hx
            exact ⟨u, by rw [← hu]; congr 2; omega, hv⟩
          · cases hx)
        have hrun := run_loadCells_list (P := P) w ⟨l.block, l.base + off, none⟩ us (fun j u hu => by rw [add_eq]; exact hus j u hu)
        have hun : us.length = n := by rw [← hur.length, hlen]
        rw [hun] at hrun
        exact ⟨.agg ⟨us⟩, by simp [loadVar, run_isAgg ha, run_size hn, hrun], .agg hur⟩
      · cases e
    · cases e
  · rename_i ha
    obtain ⟨u, hu, hv⟩ := rel _ _ e
    exact ⟨u, by simp [loadVar, run_isAgg ha, hu], hv⟩
  · cases e

theorem run_load_am {t : TypeId} {x x' v : Value} (e : loadB P t x h = some v) (hx : VRel ρ x x') (H : HRel P ρ h w) : ∃ v', (Instr.loadAt t x').run P w = .ok v' w ∧ VRel ρ v v' := by
  unfold loadB at e
  split at e
  · rename_i r off
    split at e
    · rename_i cs g
      cases hx with
      | ptr hl =>
        obtain ⟨v', hrun, hv⟩ := run_loadVar H g hl e
        exact ⟨v', by simp [Instr.loadAt, Instr.sureAddr, hrun], hv⟩
    · cases e
  · cases e

theorem run_store_am {t : TypeId} {x x' v v' : Value} (e : storeB P t x v h = some h') (hx : VRel ρ x x') (hv : VRel ρ v v') (H : HRel P ρ h w) :
    ∃ w', (Instr.storeAt t x' v').run P w = .ok () w' ∧ HRel P ρ h' w' ∧ Turn ρ h w ρ h' w' := by
  unfold storeB at e
  split at e
  case h_2 => cases e
  rename_i r off
  split at e
  case h_2 => cases e
  rename_i ty cs n g hn
  split at e
  case h_2 => cases e
  rename_i hc
  simp only [Bool.and_eq_true] at hc
  obtain ⟨hc1, hc2⟩ := hc
  split at e
  case h_2 => cases e
  rename_i cs' hlay
  cases hx with
  | @ptr _ _ l hl =>
    obtain ⟨l', C, f, hl', hb, hf, h1, h2, h3, rel⟩ := H.at_cells g
    rw [hl] at hl'; simp at hl'; subst hl'
    have hcells := hv.cells (isJ_of_one hc2)
    have hsz : v'.cells.size = n := by
      have := hcells.length
      rw [of_beq hc1] at this
      simpa using this.symm
    have hle := (lay_eq hlay).2
    have hlen := hcells.length
    obtain ⟨C', hrun, hs, hget⟩ := run_storeCells_am (P := P) l.block (l.base + off) ty f v'.cells.toList 0 C w hb hf (by omega) (hcells.one hc2)
    have hw := H.write (C' := C') g hl hb e hs (lay_length hlay) (fun i u hi => by
      rw [lay_get hlay] at hi
      rw [hget]
      split at hi
      · rename_i hin
        rw [if_pos (by omega)]
        obtain ⟨u', hu', hr⟩ := hcells.get hi
        exact ⟨u', by rw [← hu']; congr 1; omega, hr⟩
      · rename_i hin
        rw [if_neg (by omega)]
        exact rel _ _ hi)
    refine ⟨_, ?_, hw⟩
    simp [Instr.storeAt, Instr.sureAddr, storeVar, run_size hn, hsz]
    exact hrun

theorem run_zeros {t : TypeId} {zs : List Value} (e : zerosB P t = some zs) (w : World) : ∃ z, (zeroValue t).run P w = .ok z w ∧ z.cells.toList = zs ∧ allFlat zs = true := by
  unfold zerosB at e
  split at e
  · rename_i i hi
    split at e
    · rename_i z hz
      split at e
      · rename_i hf
        simp at e
        exact ⟨z, by simp [zeroValue, run_typeInfo hi, hz], e, by rw [← e]; exact hf⟩
      · cases e
    · cases e
  · cases e

/-- A new row of cells: what newRow does. -/
theorem run_newRow_am {e : TypeId} {cs : List Value} {C : Array Value} {r n : Nat} (H : HRel P ρ h w) (en : h.new (.cells e cs) = some (r, h')) (hsz : sizeB P e = some n)
    (hlen : cs.length ≤ C.size) (rel : ∀ (i : Nat) (v : Value), cs[i]? = some v → ∃ u : Value, C[i]? = some u ∧ VRel ρ v u) :
    HRel P (upd ρ r ⟨w.heap.size, 0, C.size, n⟩) h' (w.alloc (.cells C e)) ∧ Turn ρ h w (upd ρ r ⟨w.heap.size, 0, C.size, n⟩) h' (w.alloc (.cells C e)) := by
  have hr := (new_eq en).1
  have hnone : ρ r = none := by rw [hr]; exact H.fresh0
  refine H.new_block en rfl rfl rfl rfl (by simp) (fun k hk => ?_) ?_
  · show (w.heap.push _)[k]? = _
    rw [Array.getElem?_push, if_neg (by omega)]
  · refine ⟨C, (0, 0), ?_, .inl rfl, hlen, by simp, ⟨hsz, .inl rfl⟩, fun i v hv => let ⟨u, x, y⟩ := rel i v hv; ⟨u, by simpa using x, y.mono (upd_le hnone)⟩⟩
    show (w.heap.push _)[w.heap.size]? = _
    simp

theorem rel_of_LRel {cs : List Value} {C : Array Value} (hr : LRel ρ cs C.toList) : ∀ (i : Nat) (v : Value), cs[i]? = some v → ∃ u : Value, C[i]? = some u ∧ VRel ρ v u := fun i v hv => by
  obtain ⟨u, a, b⟩ := hr.get hv
  exact ⟨u, by rwa [Array.getElem?_toList] at a, b⟩

theorem ptrTo_rel {r : Nat} {l : Loc} : VRel (upd ρ r l) (ptrTo r) (.pointer (some ⟨l.block, l.base + 0, none⟩)) := .ptr (by simp [upd])

theorem newCells_eq {e : TypeId} {cs : List Value} {r : Nat} (en : newCells P h e cs = some (r, h')) : ∃ n, sizeB P e = some n ∧ h.new (.cells e cs) = some (r, h') := by
  unfold newCells at en
  split at en
  · exact ⟨_, by assumption, en⟩
  · cases en

theorem run_box_am {e : TypeId} {v v' : Value} {r : Nat} (H : HRel P ρ h w) (hv : VRel ρ v v') (hj : isJ v = false) (en : newCells P h e v.cells.toList = some (r, h')) :
    ∃ u w' ρ', (Instr.box e v').run P w = .ok u w' ∧ VRel ρ' (ptrTo r) u ∧ HRel P ρ' h' w' ∧ Turn ρ h w ρ' h' w' := by
  obtain ⟨n, hsz, en⟩ := newCells_eq en
  have hc := hv.cells hj
  obtain ⟨a, b⟩ := run_newRow_am (C := v'.cells) H en hsz (by have := hc.length; simp at this ⊢; omega) (rel_of_LRel hc)
  exact ⟨_, _, _, by simp [Instr.box, newVar, newRow], ptrTo_rel, a, b⟩

theorem run_alloc_am {e : TypeId} {cs : List Value} {r : Nat} (H : HRel P ρ h w) (hz : zerosB P e = some cs) (en : newCells P h e cs = some (r, h')) :
    ∃ u w' ρ', (Instr.alloc e true (.tuple #[])).run P w = .ok u w' ∧ VRel ρ' (ptrTo r) u ∧ HRel P ρ' h' w' ∧ Turn ρ h w ρ' h' w' := by
  obtain ⟨n, hsz, en⟩ := newCells_eq en
  obtain ⟨z, hz1, hz2, hz3⟩ := run_zeros hz w
  have hc : LRel ρ cs z.cells.toList := by rw [hz2]; exact .of_allFlat hz3
  obtain ⟨a, b⟩ := run_newRow_am (C := z.cells) H en hsz (by have := hc.length; simp at this ⊢; omega) (rel_of_LRel hc)
  exact ⟨_, _, _, by simp [Instr.alloc, hz1, newVar, newRow], ptrTo_rel, a, b⟩
end
end Go.Am

/- The abstract machine: structs, arrays and slices that are built; parts of them. -/
namespace Go.Am
set_option linter.unusedVariables false
section
variable {P : Program} {ρ : Env} {h h' : AW} {w : World}

theorem foldl_lay (off : Nat) : ∀ (vs : List Value) (k : Nat) (C : Array Value), off + k + vs.length ≤ C.size →
    ((vs.zipIdx k).foldl (fun (cs : Array Value) (p : Value × Nat) => cs.setIfInBounds (off + p.2) p.1) C).size = C.size ∧
    ∀ j, ((vs.zipIdx k).foldl (fun (cs : Array Value) (p : Value × Nat) => cs.setIfInBounds (off + p.2) p.1) C)[j]? = if off + k ≤ j ∧ j < off + k + vs.length then vs[j - (off + k)]? else C[j]?
  | [], k, C, _ => ⟨rfl, fun j => by rw [if_neg (by simp)]; rfl⟩
  | v :: vs, k, C, hl => by
    obtain ⟨a, b⟩ := foldl_lay off vs (k + 1) (C.setIfInBounds (off + k) v) (by simp at hl ⊢; omega)
    refine ⟨by simpa using a, fun j => ?_⟩
    simp only [List.zipIdx_cons, List.foldl_cons]
    rw [b j]
    by_cases hj : j = off + k
    · subst hj
      rw [if_neg (by omega), if_pos ⟨by omega, by simp⟩]
      have : off + k < C.size := by simp at hl; omega
      simp [this]
    · by_cases hj2 : off + (k + 1) ≤ j ∧ j < off + (k + 1) + vs.length
      · rw [if_pos hj2, if_pos ⟨by omega, by simp; omega⟩]
        have : j - (off + k) = (j - (off + (k + 1))) + 1 := by omega
        rw [this]; simp
      · rw [if_neg hj2, if_neg (by simp; omega), Array.getElem?_setIfInBounds, if_neg (by omega)]

/-- Parts that are alike. -/
def PRel (ρ : Env) (ps qs : List (Nat × Value)) : Prop := ps.map (·.1) = qs.map (·.1) ∧ LRel ρ (ps.map (·.2)) (qs.map (·.2))

theorem evParts_rel {a : Slots} {act : Act} (hs : LRel ρ a act.tmps.toList) : ∀ {xs : List (Nat × Operand)} {ps : List (Nat × Value)}, evParts a xs = some ps → PRel ρ ps (xs.map fun p => (p.1, act.eval p.2))
  | [], ps, e => by simp [evParts] at e; subst e; exact ⟨rfl, .nil⟩
  | (i, x) :: xs, ps, e => by
    simp only [evParts] at e
    split at e
    · rename_i v ev
      split at e
      · rename_i us eu
        simp at e; subst e
        obtain ⟨p, q⟩ := evParts_rel hs eu
        exact ⟨by simp [p], .cons (aev_rel hs ev) q⟩
      · cases e
    · cases e

theorem fill_am {placeB place : Nat → Option (Nat × Nat)} (hp : ∀ i x, placeB i = some x → place i = some x) : ∀ {ps qs : List (Nat × Value)} {cs cs₂ : List Value} {C : Array Value}, fillB placeB cs ps = some cs₂ → PRel ρ ps qs → LRel ρ cs C.toList →
    ∃ C₂, Instr.fill place C qs = some C₂ ∧ LRel ρ cs₂ C₂.toList
  | [], [], cs, cs₂, C, e, _, hr => by simp [fillB] at e; subst e; exact ⟨C, rfl, hr⟩
  | [], _ :: _, _, _, _, _, h, _ => by simp [PRel] at h
  | _ :: _, [], _, _, _, _, h, _ => by simp [PRel] at h
  | (i, v) :: ps, (j, u) :: qs, cs, cs₂, C, e, h, hr => by
    obtain ⟨h1, h2⟩ := h
    simp only [List.map_cons, List.cons.injEq] at h1
    obtain ⟨rfl, h1⟩ := h1
    simp only [List.map_cons] at h2
    cases h2 with
    | cons hv h2 =>
      simp only [fillB] at e
      split at e
      · cases e
      · rename_i off size hpl
        split at e
        · rename_i hb
          simp only [Bool.and_eq_true, Bool.not_eq_true'] at hb
          obtain ⟨hb, hj⟩ := hb
          have hb := of_beq hb
          split at e
          · rename_i cs₁ hlay
            have hc := hv.cells hj
            have hlen := hc.length
            have hle := (lay_eq hlay).2
            have hrl := hr.length
            have hsz : u.cells.size = size := by simp at hlen hb ⊢; omega
            have hgt : ¬ off + u.cells.size > C.size := by simp at hlen hb hrl ⊢; simp at hle; omega
            have hF := foldl_lay off u.cells.toList 0 C (by simp at hgt ⊢; omega)
            have key : (u.cells.zipIdx.foldl (fun cs (p : Value × Nat) => cs.setIfInBounds (off + p.2) p.1) C) = (u.cells.toList.zipIdx.foldl (fun (cs : Array Value) (p : Value × Nat) => cs.setIfInBounds (off + p.2) p.1) C) := by
              rw [← Array.foldl_toList]; simp
            obtain ⟨C₂, hf, hr₂⟩ := fill_am hp (C := u.cells.toList.zipIdx.foldl (fun (cs : Array Value) (p : Value × Nat) => cs.setIfInBounds (off + p.2) p.1) C) e ⟨h1, h2⟩ (LRel.of_get (by rw [lay_length hlay]; simp at hF hrl ⊢; omega) fun k x hx => by
              rw [lay_get hlay] at hx
              rw [Array.getElem?_toList, hF.2]
              split at hx
              · rename_i hin
                rw [if_pos (by omega)]
                obtain ⟨y, hy, hxy⟩ := hc.get hx
                exact ⟨y, by simpa using hy, hxy⟩
              · rename_i hin
                rw [if_neg (by omega)]
                obtain ⟨y, hy, hxy⟩ := hr.get hx
                exact ⟨y, by simpa using hy, hxy⟩)
            refine ⟨C₂, ?_, hr₂⟩
            simp only [Instr.fill, hp _ _ hpl]
            rw [if_neg (by simp only [hsz]; simp; simp at hgt; omega)]
            rw [← hf, ← key]
          · cases e
        · cases e

theorem run_places (fs : List Field) : ∀ {pl : List (Nat × Nat)}, placesB P fs = some pl → (fs.mapM fun f => (do pure (f.offset, ← sizeOf f.type) : Sem (Nat × Nat))).run P w = .ok pl w := by
  induction fs with
  | nil => intro pl e; simp [placesB] at e; subst e; simp
  | cons f fs ih =>
    intro pl e
    simp only [placesB] at e
    split at e
    · rename_i n ps hn hps
      simp at e; subst e
      simp only [List.mapM_cons, Sem.run_bind, run_size hn, Result.andThen_ok, ih hps, Sem.run_pure]
    · cases e

theorem run_build_am {t : TypeId} {ps : List (Nat × Value)} {qs : Array (Nat × Value)} {v : Value} (e : buildB P t ps = some v) (h : PRel ρ ps qs.toList) : ∃ u, (Instr.build t qs).run P w = .ok u w ∧ VRel ρ v u := by
  unfold buildB at e
  split at e
  · rename_i fields zs hu hz
    obtain ⟨z, hz1, hz2, hz3⟩ := run_zeros hz w
    split at e
    · rename_i pl hpl
      split at e
      · rename_i cs hf
        simp at e; subst e
        obtain ⟨C₂, hf2, hr⟩ := fill_am (place := fun i => (⟨pl⟩ : Array (Nat × Nat))[i]?) (fun i x hx => by simpa using hx) hf h (C := z.cells) (by rw [hz2]; exact .of_allFlat hz3)
        refine ⟨.agg C₂, ?_, .agg hr⟩
        have hm := run_places (P := P) (w := w) fields.toList hpl
        have hm' : (fields.mapM fun f => (do pure (f.offset, ← sizeOf f.type) : Sem (Nat × Nat))).run P w = .ok ⟨pl⟩ w := by
          rw [Array.mapM_eq_mapM_toList, Sem.run_map, hm]; rfl
        simp only [Instr.build, Sem.run_bind, hz1, Result.andThen_ok, run_underlying hu, hm', hf2, Sem.run_pure]
      · cases e
    · cases e
  · rename_i n el zs hu hz
    obtain ⟨z, hz1, hz2, hz3⟩ := run_zeros hz w
    split at e
    · rename_i s hs
      split at e
      · rename_i cs hf
        simp at e; subst e
        obtain ⟨C₂, hf2, hr⟩ := fill_am (place := fun i => some (i * s, s)) (fun i x hx => hx) hf h (C := z.cells) (by rw [hz2]; exact .of_allFlat hz3)
        exact ⟨.agg C₂, by simp only [Instr.build, Sem.run_bind, hz1, Result.andThen_ok, run_underlying hu, run_size hs, hf2, Sem.run_pure], .agg hr⟩
      · cases e
    · cases e
  · cases e

/-- The same cells over and over, as the model lays them. -/
theorem rep_get {zs : List Value} : ∀ {n : Nat} {ys : List Value}, rep zs n = some ys → ys.length = n * zs.length ∧ ∀ i, i < n * zs.length → ys[i]? = zs[i % zs.length]?
  | 0, ys, e => by simp [rep] at e; subst e; simp
  | n + 1, ys, e => by
    simp only [rep] at e
    split at e
    · rename_i us eu
      have := join_eq e
      subst this
      obtain ⟨a, b⟩ := rep_get eu
      refine ⟨by simp [a, Nat.add_mul]; omega, fun i hi => ?_⟩
      by_cases h : i < zs.length
      · rw [List.getElem?_append_left h, Nat.mod_eq_of_lt h]
      · rw [List.getElem?_append_right (by omega), b _ (by rw [Nat.add_mul] at hi; omega)]
        congr 1
        have := Nat.mod_eq_sub_mod (a := i) (b := zs.length) (by omega)
        rw [this]
    · cases e
theorem rep_flat {zs : List Value} (hz : allFlat zs = true) : ∀ {n : Nat} {ys : List Value}, rep zs n = some ys → LRel ρ ys ys := by
  have hr : LRel ρ zs zs := .of_allFlat hz
  intro n
  induction n with
  | zero => intro ys e; simp [rep] at e; subst e; exact .nil
  | succ n ih =>
    intro ys e
    simp only [rep] at e
    split at e
    · rename_i us eu
      have := join_eq e
      subst this
      exact hr.append (ih eu)
    · cases e
theorem rep_model {zs : List Value} {z : Array Value} {n m : Nat} {ys : List Value} (e : rep zs n = some ys) (hz : z.toList = zs) (hm : m = n * zs.length) (hpos : m = 0 ∨ 0 < zs.length) : ((Array.range m).map (z[· % z.size]!)).toList = ys := by
  subst hz
  obtain ⟨a, b⟩ := rep_get e
  apply List.ext_getElem?
  intro i
  by_cases hi : i < m
  · rw [b i (by omega)]
    have hp : 0 < z.size := by simp at hpos; omega
    have hlt : i % z.size < z.size := Nat.mod_lt _ hp
    have hl : z.toList.length = z.size := by simp
    rw [hl, Array.getElem?_toList, Array.getElem?_toList, Array.getElem?_map]
    rw [Array.getElem?_eq_getElem (by simpa using hi)]
    simp only [Array.getElem_range, Option.map_some]
    rw [getElem!_pos z _ hlt, Array.getElem?_eq_getElem hlt]
  · rw [List.getElem?_eq_none (by simp; omega), List.getElem?_eq_none (by omega)]

/-- The value comes, and the world goes on as the rows. -/
def Done (P : Program) (ρ : Env) (h : AW) (w : World) (s : Sem Value) (v : Value) (h' : AW) : Prop :=
  ∃ u w' ρ', s.run P w = .ok u w' ∧ VRel ρ' v u ∧ HRel P ρ' h' w' ∧ Turn ρ h w ρ' h' w'
theorem Done.quiet {s : Sem Value} {v u : Value} (H : HRel P ρ h w) (hr : s.run P w = .ok u w) (hv : VRel ρ v u) : Done P ρ h w s v h := ⟨u, w, ρ, hr, hv, H, Turn.refl _ _ _⟩

theorem ret_eq {x : Option Value} {v : Value} (e : ret x h = some (.val v h')) : x = some v ∧ h' = h := by
  unfold ret at e
  split at e
  · simp at e; exact ⟨by rw [e.1], e.2.symm⟩
  · cases e
theorem ret2_eq {x : Option (Value × AW)} {v : Value} (e : ret2 x = some (.val v h')) : x = some (v, h') := by
  unfold ret2 at e
  split at e
  · simp at e; obtain ⟨rfl, rfl⟩ := e; rfl
  · cases e
theorem retRow_eq {x : Option (Nat × AW)} {mk : Nat → Value} {v : Value} (e : retRow x mk = some (.val v h')) : ∃ r, x = some (r, h') ∧ v = mk r := by
  unfold retRow at e
  split at e
  · rename_i r h1; simp at e; obtain ⟨rfl, rfl⟩ := e; exact ⟨r, rfl, rfl⟩
  · cases e
theorem ret_val {x : Option Value} {res : Res} (e : ret x h = some res) : ∃ v, x = some v ∧ res = .val v h := by
  unfold ret at e
  split at e
  · simp at e; exact ⟨_, rfl, e.symm⟩
  · cases e
theorem ret2_val {x : Option (Value × AW)} {res : Res} (e : ret2 x = some res) : ∃ v h', x = some (v, h') ∧ res = .val v h' := by
  unfold ret2 at e
  split at e
  · simp at e; exact ⟨_, _, rfl, e.symm⟩
  · cases e
theorem retRow_val {x : Option (Nat × AW)} {mk : Nat → Value} {res : Res} (e : retRow x mk = some res) : ∃ r h', x = some (r, h') ∧ res = .val (mk r) h' := by
  unfold retRow at e
  split at e
  · simp at e; exact ⟨_, _, rfl, e.symm⟩
  · cases e

theorem slice_exact {r len cap : Nat} {l : Loc} (hl : len ≤ cap) (hc : cap ≤ 140737488355328) : VRel (upd ρ r l) (.slice (some ⟨r, 0, none⟩) len cap) (.slice (some ⟨l.block, l.base + 0, none⟩) len cap) :=
  .slice hl (fun _ => rfl) fun _ => ⟨l, by simp [upd], rfl, fun e => by unfold openCap at e; omega⟩

theorem run_buildSlice_am {t : TypeId} {len : Nat} {ps : List (Nat × Value)} {qs : Array (Nat × Value)} {res : Res} (H : HRel P ρ h w) (e : buildSliceB P t len ps h = some res) (hp : PRel ρ ps qs.toList) :
    ∃ v h', res = .val v h' ∧ Done P ρ h w (Instr.buildSlice t len qs) v h' := by
  unfold buildSliceB at e
  split at e
  case h_2 => cases e
  rename_i el hu
  split at e
  case h_2 => cases e
  rename_i n zs hn hz
  split at e
  case h_2 => cases e
  rename_i cs hc hrep
  simp only [Bool.and_eq_true] at hc
  obtain ⟨hc1, hc2, hc3⟩ := hc
  have hc1 := of_beq hc1
  have hc2 := of_ble hc2
  have hc3 := of_ble hc3
  split at e
  case h_2 => cases e
  rename_i cs₂ hf
  obtain ⟨r, h', hnew, rfl⟩ := retRow_val e
  obtain ⟨m, hm, hnew⟩ := newCells_eq hnew
  obtain ⟨z, hz1, hz2, hz3⟩ := run_zeros hz w
  obtain ⟨hlen, _⟩ := rep_get hrep
  have hzs : z.cells.size = n := by rw [← hc1, ← hz2]; simp
  obtain ⟨C, hC⟩ : ∃ C : Array Value, (∃ z0 : Array Value, (len * n = 0 ∧ z0 = #[] ∨ len * n ≠ 0 ∧ z0 = z.cells) ∧ (Array.range (len * n)).map (z0[· % z0.size]!) = C) ∧ C.toList = cs := by
    by_cases h0 : len * n = 0
    · refine ⟨#[], ⟨#[], .inl ⟨h0, rfl⟩, by simp [h0]⟩, ?_⟩
      rw [hc1, h0] at hlen
      simpa using (List.eq_nil_of_length_eq_zero hlen).symm
    · refine ⟨(Array.range (len * n)).map (z.cells[· % z.cells.size]!), ⟨z.cells, .inr ⟨h0, rfl⟩, rfl⟩, ?_⟩
      refine rep_model hrep hz2 (by rw [hc1]) (.inr ?_)
      rw [hc1]
      rcases Nat.eq_zero_or_pos n with h1 | h1
      · subst h1; simp at h0
      · exact h1
  obtain ⟨⟨z0, hz0, hC1⟩, hC2⟩ := hC
  obtain ⟨C₂, hf2, hr⟩ := fill_am (ρ := ρ) (place := fun i => some (i * n, n)) (fun i x hx => hx) hf hp (C := C) (by rw [hC2]; exact rep_flat hz3 hrep)
  obtain ⟨a, b⟩ := run_newRow_am (C := C₂) H hnew hm (by have := hr.length; simp at this ⊢; omega) (rel_of_LRel hr)
  refine ⟨_, h', rfl, _, _, _, ?_, slice_exact (Nat.le_refl _) (by omega), a, b⟩
  have hno : ¬ (len * n > 2 ^ 24) := by omega
  simp only [Instr.buildSlice, Sem.run_bind, run_underlying hu, Result.andThen_ok, run_size hn]
  rw [if_neg hno]
  rcases hz0 with ⟨h0, rfl⟩ | ⟨h0, rfl⟩
  · rw [if_pos h0]
    simp only [Sem.run_bind, Sem.run_pure, Result.andThen_ok, hC1, hf2, newRow, run_newObj]
    rfl
  · rw [if_neg h0]
    simp only [Sem.run_bind, hz1, Sem.run_pure, Result.andThen_ok, hC1, hf2, newRow, run_newObj]
    rfl
end
end Go.Am

/- The abstract machine: make; slices, fields and elements. -/
namespace Go.Am
set_option linter.unusedVariables false
section
variable {P : Program} {ρ : Env} {h h' : AW} {w : World}

theorem ileB_iff {a b : Int} : ileB a b = true ↔ a ≤ b := by
  cases a with
  | ofNat a => cases b with
    | ofNat b => simp only [ileB]; constructor
                 · intro h; have := of_ble h; exact Int.ofNat_le.2 this
                 · intro h; exact Nat.ble_eq_true_of_le (Int.ofNat_le.1 h)
    | negSucc b => simp only [ileB]; constructor
                   · intro h; cases h
                   · intro h; have : (Int.ofNat a : Int) = (a : Int) := rfl; omega
  | negSucc a => cases b with
    | ofNat b => simp only [ileB]; constructor
                 · intro h; have : (Int.ofNat b : Int) = (b : Int) := rfl; omega
                 · intro h; trivial
    | negSucc b => simp only [ileB]; constructor
                   · intro h; have := of_ble h; omega
                   · intro h; exact Nat.ble_eq_true_of_le (by omega)
theorem ileB_eq (a b : Int) : ileB a b = decide (a ≤ b) := by
  by_cases h : a ≤ b
  · rw [ileB_iff.2 h]; simp [h]
  · cases e : ileB a b with
    | false => simp [h]
    | true => exact absurd (ileB_iff.1 e) h
theorem ieqB_eq (a b : Int) : ieqB a b = (a == b) := by
  have key : ieqB a b = true ↔ a = b := by
    cases a with
    | ofNat a => cases b with
      | ofNat b => simp only [ieqB]; constructor
                   · intro h; rw [of_beq h]
                   · intro h; exact beq_true (Int.ofNat.inj h)
      | negSucc b => simp only [ieqB]; constructor
                     · intro h; cases h
                     · intro h; cases h
    | negSucc a => cases b with
      | ofNat b => simp only [ieqB]; constructor
                   · intro h; cases h
                   · intro h; cases h
      | negSucc b => simp only [ieqB]; constructor
                     · intro h; rw [of_beq h]
                     · intro h; exact beq_true (Int.negSucc.inj h)
  cases e : ieqB a b with
  | false =>
    have : a ≠ b := fun h => by rw [key.2 h] at e; cases e
    simp [this]
  | true => simp [key.1 e]
theorem wrapB_eq (k : IntKind) (n : Int) : wrapB k n = k.wrap n := by
  unfold wrapB
  split
  · rename_i h
    simp only [Bool.and_eq_true, ileB_iff] at h
    obtain ⟨h1, h2⟩ := h
    cases k <;> simp [leastB, mostB, IntKind.wrap, IntKind.bits, IntKind.signed] at h1 h2 ⊢ <;> omega
  · rfl
theorem inB_iff {i : Int} {n : Nat} : inB i n = true ↔ 0 ≤ i ∧ i < n := by
  unfold inB
  rw [Bool.and_eq_true, ileB_iff]
  constructor
  · rintro ⟨a, b⟩; have := of_ble b; omega
  · rintro ⟨a, b⟩; exact ⟨a, Nat.ble_eq_true_of_le (by omega)⟩

theorem wrap_small {n : Int} (h0 : 0 ≤ n) (h1 : n ≤ 140737488355328) : IntKind.i64.wrap n = n := by rw [IntKind.wrap_i64]; omega

theorem run_makeSlice_am {t : TypeId} {l c l' c' : Value} {res : Res} (H : HRel P ρ h w) (e : makeSliceB P t l c h = some res) (hl : VRel ρ l l') (hc : VRel ρ c c') :
    ∃ v h', res = .val v h' ∧ Done P ρ h w (Instr.makeSlice t l' c') v h' := by
  unfold makeSliceB at e
  split at e
  case h_2 => cases e
  rename_i el kl l kc c hu
  split at e
  case h_2 => cases e
  rename_i i zs hi hz
  split at e
  case h_2 => cases e
  rename_i cs hcond hrep
  simp only [Bool.and_eq_true, ileB_iff] at hcond
  obtain ⟨⟨h1, h2⟩, h3, h4, h5⟩ := hcond
  have h4 := of_beq h4
  have h5 := of_ble h5
  have h3 : c.toNat * i.bytes ≤ 140737488355328 := of_ble h3
  obtain ⟨r, h', hnew, rfl⟩ := retRow_val e
  obtain ⟨m, hm, hnew⟩ := newCells_eq hnew
  obtain ⟨z, hz1, hz2, hz3⟩ := run_zeros hz w
  obtain ⟨hlen, _⟩ := rep_get hrep
  have hn : sizeB P el = some i.size := by simp [sizeB, hi]
  cases hl
  cases hc
  obtain ⟨C, hC⟩ : ∃ C : Array Value, (∃ z0 : Array Value, (c.toNat * i.size = 0 ∧ z0 = #[] ∨ c.toNat * i.size ≠ 0 ∧ z0 = z.cells) ∧ (Array.range (c.toNat * i.size)).map (z0[· % z0.size]!) = C) ∧ C.toList = cs := by
    by_cases h0 : c.toNat * i.size = 0
    · refine ⟨#[], ⟨#[], .inl ⟨h0, rfl⟩, by simp [h0]⟩, ?_⟩
      rw [h4, h0] at hlen
      simpa using (List.eq_nil_of_length_eq_zero hlen).symm
    · refine ⟨(Array.range (c.toNat * i.size)).map (z.cells[· % z.cells.size]!), ⟨z.cells, .inr ⟨h0, rfl⟩, rfl⟩, ?_⟩
      refine rep_model hrep hz2 (by rw [h4]) (.inr ?_)
      rw [h4]
      rcases Nat.eq_zero_or_pos i.size with h1 | h1
      · rw [h1] at h0; simp at h0
      · exact h1
  obtain ⟨⟨z0, hz0, hC1⟩, hC2⟩ := hC
  obtain ⟨a, b⟩ := run_newRow_am (ρ := ρ) (C := C) H hnew hm (by rw [← hC2]; simp) (rel_of_LRel (by rw [hC2]; exact rep_flat hz3 hrep))
  refine ⟨_, h', rfl, _, _, _, ?_, slice_exact (ρ := ρ) (by omega) h5, a, b⟩
  have hw1 := wrap_small h1 (by omega)
  have hw2 := wrap_small (n := c) (by omega) (by omega)
  have hb : ((i.bytes : Int) * c) ≤ 140737488355328 := by
    have : ((c.toNat * i.bytes : Nat) : Int) ≤ 140737488355328 := by omega
    rw [Int.natCast_mul, Int.toNat_of_nonneg (by omega)] at this
    rw [Int.mul_comm]; exact this
  have hbl : ((i.bytes : Int) * l) ≤ 140737488355328 := Int.le_trans (Int.mul_le_mul_of_nonneg_left h2 (by omega)) hb
  have t1 : ¬ (c < 0) := by omega
  have t2 : ¬ ((i.bytes : Int) * c > 281474976710656) := by omega
  have t3 : ¬ (l < 0) := by omega
  have t4 : ¬ (l > c) := by omega
  simp only [Instr.makeSlice, Sem.run_bind, run_underlying hu, Result.andThen_ok, asInt, asIntOf, Sem.run_pure, run_typeInfo hi, hw1, hw2]
  rw [if_neg (by simp [t1, t3]; omega)]
  simp only [Sem.run_bind, run_askRoom, Result.andThen_ok, run_size hn]
  rcases hz0 with ⟨h0, rfl⟩ | ⟨h0, rfl⟩
  · rw [if_pos h0]
    simp only [Sem.run_bind, Sem.run_pure, Result.andThen_ok, hC1, newRow, run_newObj]
    rfl
  · rw [if_neg h0]
    simp only [Sem.run_bind, hz1, Sem.run_pure, Result.andThen_ok, hC1, newRow, run_newObj]
    rfl

theorem run_sliceBound_am {k : IntKind} {i : Int} {y : Nat} {code : BoundsCode} (h0 : 0 ≤ i) (h1 : i ≤ y) : (Instr.sliceBound (.int k i) y code).run P w = .ok i.toNat w := by
  simp [Instr.sliceBound, asIntOf, h0, h1]

/-- Values that may lack are alike. -/
def ORel (ρ : Env) (x y : Option Value) : Prop := match x, y with
  | none, none => True
  | some v, some u => VRel ρ v u
  | _, _ => False

theorem bound_cases {x y : Option Value} {d n : Nat} (hr : ORel ρ x y) (e : boundB x d = some n) : (x = none ∧ y = none ∧ n = d) ∨ ∃ k i, x = some (.int k i) ∧ y = some (.int k i) ∧ 0 ≤ i ∧ n = i.toNat := by
  cases x with
  | none =>
    simp [boundB] at e
    cases y with
    | none => exact .inl ⟨rfl, rfl, e.symm⟩
    | some y => exact hr.elim
  | some v =>
    cases y with
    | none => exact hr.elim
    | some y =>
      cases v <;> simp only [boundB] at e <;> first | (cases e; done) | skip
      rename_i k i
      split at e
      · rename_i h0
        simp at e
        cases (show VRel ρ (.int k i) y from hr)
        exact .inr ⟨k, i, rfl, rfl, ileB_iff.1 h0, e.symm⟩
      · cases e

theorem run_sliceBounds2 {b : Bool} {len cap u l : Nat} {lo hi lo' hi' : Option Value} (h1 : ORel ρ lo lo') (h2 : ORel ρ hi hi') (eu : boundB hi len = some u) (el : boundB lo 0 = some l) (hu : u ≤ cap) (hl : l ≤ u) :
    (Instr.sliceBounds b len cap lo' hi' none).run P w = .ok (l, u, cap) w := by
  rcases bound_cases h2 eu with ⟨_, rfl, rfl⟩ | ⟨k, i, _, rfl, hi0, rfl⟩
  · rcases bound_cases h1 el with ⟨_, rfl, rfl⟩ | ⟨k', i', _, rfl, hi0', rfl⟩
    · simp [Instr.sliceBounds]
    · simp [Instr.sliceBounds, run_sliceBound_am (P := P) (w := w) (k := k') (i := i') (y := u) hi0' (by omega)]
  · rcases bound_cases h1 el with ⟨_, rfl, rfl⟩ | ⟨k', i', _, rfl, hi0', rfl⟩
    · simp [Instr.sliceBounds, run_sliceBound_am (P := P) (w := w) (k := k) (i := i) (y := cap) hi0 (by omega)]
    · simp [Instr.sliceBounds, run_sliceBound_am (P := P) (w := w) (k := k) (i := i) (y := cap) hi0 (by omega), run_sliceBound_am (P := P) (w := w) (k := k') (i := i') (y := i.toNat) hi0' (by omega)]

theorem run_sliceBounds3 {len cap u l m : Nat} {lo hi lo' hi' : Option Value} {mx mx' : Value} (h1 : ORel ρ lo lo') (h2 : ORel ρ hi hi') (h3 : VRel ρ mx mx') (eu : boundB hi len = some u) (el : boundB lo 0 = some l) (em : boundB (some mx) 0 = some m)
    (hs : hi.isSome = true) (hm : m ≤ cap) (hu : u ≤ m) (hl : l ≤ u) : (Instr.sliceBounds true len cap lo' hi' (some mx')).run P w = .ok (l, u, m) w := by
  rcases bound_cases (show ORel ρ (some mx) (some mx') from h3) em with ⟨hh, _⟩ | ⟨k₀, i₀, _, hmx, hi₀, rfl⟩
  · cases hh
  simp at hmx; subst hmx
  rcases bound_cases h2 eu with ⟨rfl, _⟩ | ⟨k, i, _, rfl, hi0, rfl⟩
  · cases hs
  · rcases bound_cases h1 el with ⟨_, rfl, rfl⟩ | ⟨k', i', _, rfl, hi0', rfl⟩
    · simp [Instr.sliceBounds, run_sliceBound_am (P := P) (w := w) (k := k₀) (i := i₀) (y := cap) hi₀ (by omega), run_sliceBound_am (P := P) (w := w) (k := k) (i := i) (y := i₀.toNat) hi0 (by omega)]
    · simp [Instr.sliceBounds, run_sliceBound_am (P := P) (w := w) (k := k₀) (i := i₀) (y := cap) hi₀ (by omega), run_sliceBound_am (P := P) (w := w) (k := k) (i := i) (y := i₀.toNat) hi0 (by omega), run_sliceBound_am (P := P) (w := w) (k := k') (i := i') (y := i.toNat) hi0' (by omega)]

theorem takeU_eq : ∀ {xs : List UInt8} {n : Nat} {ys : List UInt8}, takeU xs n = some ys → ys = xs.take n
  | xs, 0, ys, h => by cases xs <;> simp [takeU] at h <;> subst h <;> simp
  | [], n + 1, ys, h => by simp [takeU] at h
  | x :: xs, n + 1, ys, h => by
    simp only [takeU] at h
    split at h
    · rename_i zs e
      have := takeU_eq e
      subst this
      simp at h
      subst h
      rfl
    · cases h
theorem cutU_eq : ∀ {xs : List UInt8} {off n : Nat} {ys : List UInt8}, cutU xs off n = some ys → ys = (xs.drop off).take n
  | xs, 0, n, ys, h => by
    have h' : takeU xs n = some ys := by cases xs <;> simpa [cutU] using h
    simpa using takeU_eq h'
  | [], off + 1, n, ys, h => by simp [cutU] at h
  | x :: xs, off + 1, n, ys, h => by
    simp only [cutU] at h
    simpa using cutU_eq h

theorem extract_bytes (s : ByteArray) (l u : Nat) : s.extract l u = ⟨⟨(s.data.toList.drop l).take (u - l)⟩⟩ := by
  apply ByteArray.ext
  rw [ByteArray.data_extract]
  apply Array.ext'
  simp [List.extract_eq_take_drop]

theorem farB_le {len cap cap' : Nat} (hl : len ≤ cap') (hc : cap ≠ openCap → cap' = cap) : farB len cap ≤ cap' := by
  unfold farB
  split
  · exact hl
  · rename_i hb; rw [hc (of_beq_f hb)]; exact Nat.le_refl _

theorem run_slice_am {t : TypeId} {x x' v : Value} {lo hi mx lo' hi' mx' : Option Value} (H : HRel P ρ h w) (e : sliceB P t x lo hi mx h = some v) (hx : VRel ρ x x') (h1 : ORel ρ lo lo') (h2 : ORel ρ hi hi') (h3 : ORel ρ mx mx') :
    ∃ u, (Instr.sliceAt t x' lo' hi' mx').run P w = .ok u w ∧ VRel ρ v u := by
  unfold sliceB at e
  split at e
  case h_4 => cases e
  case h_3 =>
    rename_i n el r off hu
    split at e
    · cases e
    · have hm' : mx' = none := by cases mx' with
        | none => rfl
        | some y => exact h3.elim
      subst hm'
      split at e
      case h_2 => cases e
      rename_i u l size eu ell hsz
      split at e
      case h_2 => cases e
      rename_i hc
      simp only [Bool.and_eq_true] at hc
      obtain ⟨⟨hc1, hc2⟩, hc3⟩ := hc
      have hc1 := of_ble hc1
      have hc2 := of_ble hc2
      have hc3 := of_ble hc3
      simp at e; subst e
      cases hx with
      | @ptr _ _ lc hl =>
        refine ⟨.slice (some (if n = l then ⟨lc.block, lc.base + off, none⟩ else (⟨lc.block, lc.base + off, none⟩ : Addr).add (l * size))) (u - l) (n - l), by simp [Instr.sliceAt, Instr.sureAddr, run_underlying hu, run_sliceBounds2 (P := P) (w := w) (b := false) h1 h2 eu ell hc1 hc2, run_size hsz], ?_⟩
        refine .slice (by omega) (fun _ => rfl) fun hz => ?_
        rw [if_neg (by omega), add_eq]
        exact ⟨lc, hl, by simp [Nat.add_assoc], fun ho => by unfold openCap at ho; omega⟩
  case h_1 =>
    rename_i s hu
    split at e
    · cases e
    · cases hx
      have hm' : mx' = none := by cases mx' with
        | none => rfl
        | some y => exact h3.elim
      subst hm'
      split at e
      case h_2 => cases e
      rename_i u l eu el
      split at e
      case h_2 => cases e
      rename_i hc
      simp only [Bool.and_eq_true] at hc
      obtain ⟨hc1, hc2⟩ := hc
      have hc1 := of_ble hc1
      have hc2 := of_ble hc2
      split at e
      case h_2 => cases e
      rename_i bs hbs
      simp at e; subst e
      refine ⟨.string (s.extract l u), ?_, ?_⟩
      · have hsz : s.data.toList.length = s.size := by rw [Array.length_toList]; rfl
        rw [hsz] at eu hc1
        simp [Instr.sliceAt, Instr.slice, run_underlying hu, run_sliceBounds2 (P := P) (w := w) (b := false) h1 h2 eu el hc1 hc2]
      · rw [extract_bytes, ← cutU_eq hbs]
        exact .string _
  case h_2 =>
    rename_i el a len cap hu
    split at e
    case h_2 => cases e
    rename_i u l size eu ell hsz
    cases mx with
    | none =>
      have hm' : mx' = none := by cases mx' with
        | none => rfl
        | some y => exact h3.elim
      subst hm'
      simp only at e
      split at e
      case h_2 => cases e
      rename_i hc
      simp only [Bool.and_eq_true] at hc
      obtain ⟨⟨hc1, hc2⟩, hrow⟩ := hc
      have hc1 := of_ble hc1
      have hc2 := of_ble hc2
      simp at e; subst e
      cases hx with
      | sliceNil =>
        have hf0 : farB 0 0 = 0 := by decide
        rw [hf0] at hc1
        have hu0 : u = 0 := by omega
        have hl0 : l = 0 := by omega
        subst hu0 hl0
        refine ⟨.slice none 0 0, by simp [Instr.sliceAt, Instr.slice, run_underlying hu, run_sliceBounds2 (P := P) (w := w) (b := true) h1 h2 eu ell (Nat.le_refl 0) (Nat.le_refl 0), run_size hsz], ?_⟩
        have : Nat.beq 0 openCap = false := by decide
        simp only [moved, this]
        exact .sliceNil
      | @slice r off _ _ cap' a' hl' hcap ha =>
        have hfar := farB_le hl' hcap
        refine ⟨.slice (if cap' = l then some a' else some (a'.add (l * size))) (u - l) (cap' - l), by simp [Instr.sliceAt, Instr.slice, run_underlying hu, run_sliceBounds2 (P := P) (w := w) (b := true) h1 h2 eu ell (cap := cap') (by omega) hc2, run_size hsz], ?_⟩
        simp only [moved]
        have hif : (if cap' = l then some a' else some (a'.add (l * size))) = some (if cap' = l then a' else a'.add (l * size)) := by split <;> rfl
        rw [hif]
        cases hopen : Nat.beq cap openCap with
        | true =>
          have hco := of_beq hopen
          refine .slice (by omega) (fun hne => absurd rfl hne) fun hz => ?_
          obtain ⟨lc, hlc, rfl, hext⟩ := ha (by omega)
          rw [if_neg (by omega), add_eq]
          refine ⟨lc, hlc, by simp [Nat.add_assoc], fun _ => ?_⟩
          unfold rowOk at hrow
          rw [hopen] at hrow
          simp only at hrow
          split at hrow
          case h_2 => cases hrow
          rename_i e' cs' hg
          have := of_beq hrow
          subst this
          obtain ⟨lc', C, f, hlc', hb, hf, h1', h2', h3', rel⟩ := H.at_cells hg
          rw [hlc] at hlc'; simp at hlc'; subst hlc'
          rw [hsz] at h3'; simp at h3'; subst h3'
          have := (hext hco).1
          have hbd := (hext hco).2
          have hmul : l * lc.esz + (cap' - l) * lc.esz = cap' * lc.esz := by rw [← Nat.add_mul]; congr 1; omega
          omega
        | false =>
          have hce := hcap (of_beq_f hopen)
          subst hce
          refine .slice (by omega) (fun _ => rfl) fun hz => ?_
          obtain ⟨lc, hlc, rfl, hext⟩ := ha (by omega)
          rw [if_neg (by omega), add_eq]
          refine ⟨lc, hlc, by simp [Nat.add_assoc], fun ho => ?_⟩
          unfold rowOk at hrow
          rw [hopen] at hrow
          have hle := of_ble hrow
          have hne := of_beq_f hopen
          have ho' : cap' - l = openCap := ho
          omega
    | some m =>
      cases mx' with
      | none => exact h3.elim
      | some m' =>
        simp only at e
        split at e
        case h_2 => cases e
        rename_i m₀ em
        split at e
        case h_2 => cases e
        rename_i hc
        simp only [Bool.and_eq_true] at hc
        obtain ⟨⟨hc1, hc2⟩, hc3, hc4, hc5⟩ := hc
        have hc1 := of_ble hc1
        have hc2 := of_ble hc2
        have hc3 := of_ble hc3
        have hc5 := of_ble hc5
        simp at e; subst e
        cases hx with
        | sliceNil =>
          have hf0 : farB 0 0 = 0 := by decide
          rw [hf0] at hc1
          have hm0 : m₀ = 0 := by omega
          have hu0 : u = 0 := by omega
          have hl0 : l = 0 := by omega
          subst hu0 hl0 hm0
          refine ⟨.slice none 0 0, by simp [Instr.sliceAt, Instr.slice, run_underlying hu, run_sliceBounds3 (P := P) (w := w) h1 h2 h3 eu ell em hc4 (Nat.le_refl 0) (Nat.le_refl 0) (Nat.le_refl 0), run_size hsz], ?_⟩
          exact .sliceNil
        | @slice r off _ _ cap' a' hl' hcap ha =>
          have hfar := farB_le hl' hcap
          refine ⟨.slice (if m₀ = l then some a' else some (a'.add (l * size))) (u - l) (m₀ - l), by simp [Instr.sliceAt, Instr.slice, run_underlying hu, run_sliceBounds3 (P := P) (w := w) h1 h2 h3 eu ell em hc4 (cap := cap') (by omega) hc2 hc3, run_size hsz], ?_⟩
          simp only [moved]
          have hif : (if m₀ = l then some a' else some (a'.add (l * size))) = some (if m₀ = l then a' else a'.add (l * size)) := by split <;> rfl
          rw [hif]
          refine .slice (by omega) (fun _ => rfl) fun hz => ?_
          obtain ⟨lc, hlc, rfl, hext⟩ := ha (by omega)
          rw [if_neg (by omega), add_eq]
          exact ⟨lc, hlc, by simp [Nat.add_assoc], fun ho => by unfold openCap at ho; omega⟩

theorem run_toArr_am {t : TypeId} {x x' v : Value} (e : toArrB P t x = some v) (hx : VRel ρ x x') : ∃ u, (Instr.arrayAt t x').run P w = .ok u w ∧ VRel ρ v u := by
  unfold toArrB at e
  split at e
  case h_2 => cases e
  rename_i n el r off len cap hu
  split at e
  case h_2 => cases e
  rename_i hc
  simp only [Bool.and_eq_true] at hc
  have hc1 := of_ble hc.1
  have hc2 := of_ble hc.2
  simp at e; subst e
  cases hx with
  | @slice _ _ _ _ cap' a hl hcap ha =>
    obtain ⟨lc, hlc, rfl, _⟩ := ha (by omega)
    exact ⟨.pointer (some ⟨lc.block, lc.base + off, none⟩), by simp [Instr.arrayAt, run_underlying hu, show ¬ len < n by omega], .ptr hlc⟩

theorem run_fieldAddr_am {t : TypeId} {x x' v : Value} {f : Nat} (e : fieldAddrB P t x f = some v) (hx : VRel ρ x x') : ∃ u, (Instr.fieldAt t x' f).run P w = .ok u w ∧ VRel ρ v u := by
  unfold fieldAddrB at e
  split at e
  case h_2 => cases e
  rename_i fields r off hu
  split at e
  case h_2 => cases e
  rename_i fd hf
  split at e
  case h_2 => cases e
  rename_i n hn
  split at e
  case h_1 => cases e
  rename_i hb
  have hb := of_beq_f hb
  simp at e; subst e
  cases hx with
  | @ptr _ _ l hl =>
    refine ⟨.pointer (some ⟨l.block, l.base + (off + fd.offset), none⟩), ?_, .ptr hl⟩
    simp [Instr.fieldAt, run_underlying hu, hf, Instr.sureAddr, fieldPlace, run_size hn, hb, add_eq, Nat.add_assoc]

theorem run_indexAddr_am {t : TypeId} {x x' ix ix' v : Value} (e : indexAddrB P t x ix = some v) (hx : VRel ρ x x') (hi : VRel ρ ix ix') : ∃ u, (Instr.indexAt t x' ix').run P w = .ok u w ∧ VRel ρ v u := by
  unfold indexAddrB at e
  split at e
  case h_3 => cases e
  case h_1 =>
    rename_i el r off len cap k i hu
    split at e
    case h_2 => cases e
    rename_i n hin hn
    simp at e; subst e
    cases hi
    have hin := inB_iff.1 hin
    cases hx with
    | @slice _ _ _ _ cap' a' hl' hcap ha =>
      obtain ⟨l, hl, rfl, _⟩ := ha (by omega)
      refine ⟨.pointer (some ⟨l.block, l.base + (off + i.toNat * n), none⟩), ?_, .ptr hl⟩
      have hel : P.elem t = el := by simp [Program.elem, hu]
      rw [run_indexAt_slice (w := w) t _ len cap' k i (by rw [hel]; exact hu), hel, if_pos hin, run_size hn]
      simp [add_eq, Nat.add_assoc]
  case h_2 =>
    rename_i len el r off k i hu
    split at e
    case h_2 => cases e
    rename_i n hin hn
    simp at e; subst e
    cases hi
    have hin := inB_iff.1 hin
    cases hx with
    | @ptr _ _ l hl =>
      refine ⟨.pointer (some ⟨l.block, l.base + (off + i.toNat * n), none⟩), ?_, .ptr hl⟩
      have hel : P.elem t = el := by simp [Program.elem, hu]
      have hlen : P.arrayLen t = len := by simp [Program.arrayLen, hu]
      rw [run_indexAt_array (w := w) t _ k i (by rw [hel, hlen]; exact hu), hel, hlen, if_pos hin, run_size hn]
      simp [add_eq, Nat.add_assoc]

theorem bytes_get (s : ByteArray) (i : Nat) : s[i]? = s.data.toList[i]? := by
  rw [Array.getElem?_toList]
  by_cases h : i < s.size
  · rw [getElem?_pos s i h, getElem?_pos s.data i h]; rfl
  · rw [getElem?_neg s i h, getElem?_neg s.data i h]

theorem run_index_am {t : TypeId} {x x' ix ix' v : Value} (e : indexB P t x ix = some v) (hx : VRel ρ x x') (hi : VRel ρ ix ix') : ∃ u, (Instr.index t x' ix').run P w = .ok u w ∧ VRel ρ v u := by
  unfold indexB at e
  split at e
  case h_3 => cases e
  case h_1 =>
    rename_i len el cs k i hu
    split at e
    case h_2 => cases e
    rename_i n hin hn
    cases hi
    have hin := inB_iff.1 hin
    cases hx with
    | agg hr =>
      obtain ⟨u, hp, hv⟩ := run_part e hr w
      exact ⟨u, by simp [Instr.index, asIntOf, run_underlying hu, hin, run_size hn, hp], hv⟩
  case h_2 =>
    rename_i s k i hu
    split at e
    case h_2 => cases e
    rename_i h0
    have h0 := ileB_iff.1 h0
    split at e
    case h_2 => cases e
    rename_i b hb
    simp at e; subst e
    cases hi
    cases hx
    rw [← bytes_get] at hb
    exact ⟨.int .u8 b.toNat, by simp [Instr.index, asIntOf, run_underlying hu, h0, hb], .int _ _⟩

theorem run_field_am {t : TypeId} {x' : Value} {fields : Array Field} {fd : Field} {cs : Array Value} {f : Nat} {v : Value} (hu : P.underlying t = some (.struct fields)) (hf : fields[f]? = some fd) (e : partB P fd.type cs.toList fd.offset = some v) (hx : VRel ρ (.agg cs) x') :
    ∃ u, (Instr.field t x' f).run P w = .ok u w ∧ VRel ρ v u := by
  cases hx with
  | agg hr =>
    obtain ⟨u, hp, hv⟩ := run_part e hr w
    exact ⟨u, by simp [Instr.field, run_underlying hu, hf, asAgg, hp], hv⟩

theorem run_extract_am {x' : Value} {vs : Array Value} {i : Nat} {v : Value} (e : vs.toList[i]? = some v) (hx : VRel ρ (.tuple vs) x') : ∃ u, (Instr.extract x' i).run P w = .ok u w ∧ VRel ρ v u := by
  cases hx with
  | tuple hr =>
    obtain ⟨u, hu, hv⟩ := hr.get e
    rw [Array.getElem?_toList] at hu
    exact ⟨u, by simp [Instr.extract, hu], hv⟩
end
end Go.Am

