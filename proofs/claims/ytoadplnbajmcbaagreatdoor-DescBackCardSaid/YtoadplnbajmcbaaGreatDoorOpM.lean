/- Texts Base Open OpenW in one. -/
import Derived.WalkKit
import Derived.WalkSpells
import Derived.WalkLawsBesides
import Derived.Maps.AppendAt
import Derived.Deep.AppendLies
import Derived.Deep.Draws
import Derived.Deep.QuietTactic
import Derived.BigQuiet
import Derived.Laws.Rows
import Derived.OwnWalk
import Derived.Lib.Hide
import Derived.ProofKit
import Derived.OpenShut
import Derived.ShutString
import Derived.ChangeOld
import Derived.Deep.Slices
import Derived.Deep.Fields
import Derived.ChangeSame
import Derived.Lib.SmallJoins
import Derived.SizedLaws
import Derived.Test.YtoadplnbajmcbaaGreatDoorAmR
import Derived.ChangeArms
/- Words for memory that all proofs of this seat use: a slice value that reads as a list of cells, a block known whole, an append onto a row of the call's own. -/
namespace Go.Proofs.YtoadplnbajmcbaaGreatDoor
open Go.RowKit

theorem add_block (a : Addr) (n : Nat) : (a.add n).block = a.block := by unfold Addr.add; split <;> rfl
theorem add_add (a : Addr) (i j : Nat) : (a.add i).add j = a.add (i + j) := by
  unfold Addr.add
  by_cases hi : i = 0 <;> by_cases hj : j = 0 <;> simp [hi, hj, Nat.add_assoc]
theorem add_zero (a : Addr) : a.add 0 = a := rfl

theorem cell_lt {w : World} {a : Addr} {v : Value} (h : w.cell? a = some v) : a.block < w.heap.size := by
  rcases Nat.lt_or_ge a.block w.heap.size with hl | hg
  · exact hl
  · simp [World.cell?, Array.getElem?_eq_none hg] at h

/-- Whatever block. -/
def Any : Nat → Prop := fun _ => True

/-- The slice value '.slice A n _' reads as the cells cs, sz of them an element, in a block of S. -/
structure Sl (w : World) (S : Nat → Prop) (sz : Nat) (A : Option Addr) (n : Nat) (cs : List Value) : Prop where
  len : cs.length = n * sz
  cells : 0 < n → ∃ ad, A = some ad ∧ S ad.block ∧ ad.block < w.heap.size ∧ ∀ j u, cs[j]? = some u → w.cell? (ad.add j) = some u

section
variable {w w' : World} {S S' : Nat → Prop} {sz n : Nat} {A : Option Addr} {cs : List Value}
theorem Sl.keep (h : Sl w S sz A n cs) (hs : w.heap.size ≤ w'.heap.size) (hk : ∀ k, k < w.heap.size → S k → w'.heap[k]? = w.heap[k]?) : Sl w' S sz A n cs :=
  ⟨h.len, fun hn => by
    obtain ⟨ad, e, hS, hb, hc⟩ := h.cells hn
    exact ⟨ad, e, hS, Nat.lt_of_lt_of_le hb hs, fun j u hu => (World.cell?_of_block (by rw [add_block]; exact hk _ hb hS)).trans (hc j u hu)⟩⟩
theorem Sl.weaken (h : Sl w S sz A n cs) (hk : ∀ k, k < w.heap.size → S k → S' k) : Sl w S' sz A n cs :=
  ⟨h.len, fun hn => by
    obtain ⟨ad, e, hS, hb, hc⟩ := h.cells hn
    exact ⟨ad, e, hk _ hb hS, hb, hc⟩⟩
theorem Sl.any (h : Sl w S sz A n cs) : Sl w Any sz A n cs := h.weaken fun _ _ _ => trivial
theorem Sl.here (h : Sl w S sz A n cs) : Sl w (· < w.heap.size) sz A n cs := h.weaken fun _ hb _ => hb
theorem Sl.drew (h : Sl w S sz A n cs) : Sl w.drew S sz A n cs := h.keep (Nat.le_refl _) fun _ _ _ => rfl
theorem Sl.drewN (h : Sl w S sz A n cs) (k : Nat) : Sl (w.drewN k) S sz A n cs := h.keep (Nat.le_refl _) fun _ _ _ => rfl
theorem Sl.alloc (h : Sl w S sz A n cs) (o : Obj) : Sl (w.alloc o) S sz A n cs := h.keep (by simp) fun k hk _ => Below.heap_alloc w o k hk
theorem Sl.setCell (h : Sl w S sz A n cs) {p : Addr} (hp : ¬ S p.block) (u : Value) : Sl (w.setCell p u) S sz A n cs :=
  h.keep (by simp [World.setCell]) fun k _ hS => Below.heap_setCell w p u k (fun e => hp (e ▸ hS))
theorem Sl.below {B : Nat} (h : Sl w S sz A n cs) (hb : Below B w w') (hS : ∀ k, k < w.heap.size → S k → k < B) : Sl w' S sz A n cs :=
  h.keep hb.size fun k hk hs => hb.block k (hS k hk hs)
theorem Sl.below_all (h : Sl w S sz A n cs) (hb : Below w.heap.size w w') : Sl w' S sz A n cs := h.below hb fun _ hk _ => hk
theorem Sl.grown (h : Sl w S sz A n cs) {row : Option Nat} (hg : w.grownBy w' row) (hr : ∀ g, row = some g → ¬ S g) : Sl w' S sz A n cs :=
  h.keep hg.size fun k hk hS => hg.block k hk (fun e => hr k e.symm hS)
theorem Sl.nil_ : Sl w S sz A 0 [] := ⟨by simp, fun h => absurd h (by omega)⟩
theorem Sl.empty (h : Sl w S sz A 0 cs) : cs = [] := List.eq_nil_of_length_eq_zero (by simpa using h.len)
theorem Sl.of0 (hn : n = 0) (hc : cs = []) : Sl w S sz A n cs := by subst hn; subst hc; exact Sl.nil_
theorem Sl.at_ {k : Nat} (h : Sl w S 1 A n cs) (hk : k < n) : ∃ ad u, A = some ad ∧ ad.block < w.heap.size ∧ S ad.block ∧ cs[k]? = some u ∧ w.cell? (ad.add k) = some u := by
  obtain ⟨ad, e, hS, hb, hc⟩ := h.cells (by omega)
  have hl : k < cs.length := by have := h.len; omega
  exact ⟨ad, cs[k], e, hb, hS, List.getElem?_eq_getElem hl, hc k _ (List.getElem?_eq_getElem hl)⟩
theorem Sl.cut (h : Sl w S sz A n cs) {k cap : Nat} (hk : k ≤ n) (hc : n ≤ cap) :
    Sl w S sz (if cap = k then A else A.map (·.add (k * sz))) (n - k) (cs.drop (k * sz)) := by
  refine ⟨by rw [List.length_drop, h.len, Nat.sub_mul], fun hn => ?_⟩
  obtain ⟨ad, rfl, hS, hb, hcell⟩ := h.cells (by omega)
  rw [if_neg (by omega)]
  refine ⟨ad.add (k * sz), rfl, by rw [add_block]; exact hS, by rw [add_block]; exact hb, fun j u hu => ?_⟩
  rw [add_add]
  exact hcell _ u (by rw [← hu, List.getElem?_drop])
theorem Sl.take (h : Sl w S sz A n cs) {k : Nat} (hk : k ≤ n) : Sl w S sz A k (cs.take (k * sz)) := by
  refine ⟨by rw [List.length_take, h.len]; exact Nat.min_eq_left (Nat.mul_le_mul_right _ hk), fun hn => ?_⟩
  obtain ⟨ad, e, hS, hb, hcell⟩ := h.cells (by omega)
  exact ⟨ad, e, hS, hb, fun j u hu => hcell j u (by
    rw [List.getElem?_take] at hu
    split at hu
    · exact hu
    · cases hu)⟩
theorem Sl.of_own {base : Nat} {e : TypeId} {c : Nat} (h : w.ownsRow base e sz (.slice A n c) n cs) : Sl w (fun k => base ≤ k ∧ (Value.slice A n c).ownBlock = some k) sz A n cs := by
  refine ⟨h.1, fun hn => ?_⟩
  rcases h.2 with ⟨hv, h0⟩ | ⟨g, cap, cur, hv, hbg, hh, _⟩
  · injection hv with _ hv; omega
  · injection hv with hA hn' hc'
    subst hA
    refine ⟨_, rfl, ⟨hbg, rfl⟩, ?_, h.cells (g := g) rfl⟩
    rcases Nat.lt_or_ge g w.heap.size with hlt | hge
    · exact hlt
    · rw [Array.getElem?_eq_none hge] at hh; cases hh
end

/-- What an owned row's value looks like. -/
theorem own_form {w : World} {base e sz n : Nat} {v : Value} {cs : List Value} (h : w.ownsRow base e sz v n cs) :
    ∃ A c, v = .slice A n c ∧ n ≤ c ∧ c ≤ maxLen := by
  rcases h.2 with ⟨rfl, rfl⟩ | ⟨g, cap, cur, rfl, _, _, hnc, hcm, _⟩
  · exact ⟨none, 0, rfl, Nat.le_refl _, by decide⟩
  · exact ⟨some ⟨g, 0, none⟩, cap, rfl, hnc, hcm⟩

theorem own_base {w : World} {base base' e sz n : Nat} {v : Value} {cs : List Value} (h : w.ownsRow base e sz v n cs) (hb : ∀ k, v.ownBlock = some k → base' ≤ k) : w.ownsRow base' e sz v n cs := by
  refine ⟨h.1, ?_⟩
  rcases h.2 with h2 | ⟨g, cap, cur, hv, hbg, hh, r⟩
  · exact .inl h2
  · exact .inr ⟨g, cap, cur, hv, hb g (by rw [hv]; rfl), hh, r⟩
theorem own_mono {w : World} {base base' e sz n : Nat} {v : Value} {cs : List Value} (h : w.ownsRow base e sz v n cs) (hb : base' ≤ base) : w.ownsRow base' e sz v n cs :=
  own_base h fun k hk => Nat.le_trans hb (h.lt k hk).1
theorem own_below {w w' : World} {B base e sz n : Nat} {v : Value} {cs : List Value} (h : w.ownsRow base e sz v n cs) (hb : Below B w w') (hv : ∀ k, v.ownBlock = some k → k < B) : w'.ownsRow base e sz v n cs := by
  refine ⟨h.1, ?_⟩
  rcases h.2 with h2 | ⟨g, cap, cur, hv', hbg, hh, r⟩
  · exact .inl h2
  · exact .inr ⟨g, cap, cur, hv', hbg, (hb.block g (hv g (by rw [hv']; rfl))).trans hh, r⟩
theorem own_below_all {w w' : World} {base e sz n : Nat} {v : Value} {cs : List Value} (h : w.ownsRow base e sz v n cs) (hb : Below w.heap.size w w') : w'.ownsRow base e sz v n cs :=
  own_below h hb fun k hk => (h.lt k hk).2

/-- Block g is just the cells cs of element type t, none of them frozen. -/
def Bk (w : World) (g t : Nat) (cs : Array Value) : Prop := w.heap[g]? = some (.cells cs t (0, 0))
section
variable {w w' : World} {g t : Nat} {cs : Array Value}
theorem Bk.lt (h : Bk w g t cs) : g < w.heap.size := lt_of_block h
theorem Bk.cell (h : Bk w g t cs) (i : Nat) : w.cell? ⟨g, i, none⟩ = cs[i]? := by simp [World.cell?, show w.heap[g]? = _ from h]
theorem Bk.frozen (h : Bk w g t cs) (i : Nat) : w.frozen? ⟨g, i, none⟩ = false := by simp [World.frozen?, show w.heap[g]? = _ from h]
theorem Bk.new (w : World) (t : Nat) (cs : Array Value) : Bk (w.alloc (.cells cs t)) w.heap.size t cs := heap_alloc_new w _
theorem Bk.keep (h : Bk w g t cs) (hk : w'.heap[g]? = w.heap[g]?) : Bk w' g t cs := hk.trans h
theorem Bk.below {B : Nat} (h : Bk w g t cs) (hb : Below B w w') (hg : g < B) : Bk w' g t cs := (hb.block g hg).trans h
theorem Bk.below_all (h : Bk w g t cs) (hb : Below w.heap.size w w') : Bk w' g t cs := h.below hb h.lt
theorem Bk.alloc (h : Bk w g t cs) (o : Obj) : Bk (w.alloc o) g t cs := (Below.heap_alloc w o g h.lt).trans h
theorem Bk.set_ (h : Bk w g t cs) (i : Nat) (u : Value) : Bk (w.setCell ⟨g, i, none⟩ u) g t (cs.setIfInBounds i u) := by
  unfold Bk at h ⊢
  simp [World.setCell, Array.getElem?_modify, h]
theorem Bk.far (h : Bk w g t cs) {p : Addr} (hp : g ≠ p.block) (u : Value) : Bk (w.setCell p u) g t cs := (Below.heap_setCell w p u g hp).trans h
theorem Bk.grown {row : Option Nat} (h : Bk w g t cs) (hb : w.grownBy w' row) (hg : some g ≠ row) : Bk w' g t cs := (hb.block g h.lt hg).trans h
theorem Bk.ne {g' t' : Nat} {cs' : Array Value} (h : Bk w g t cs) (h' : Bk w g' t' cs') (hne : t ≠ t') : g ≠ g' := by
  rintro rfl
  unfold Bk at h h'
  rw [h] at h'
  injection h' with h'
  injection h' with _ ht
  exact hne ht
theorem own_ne {base e sz n : Nat} {v : Value} {xs : List Value} (h : w.ownsRow base e sz v n xs) (hg : Bk w g t cs) (hne : e ≠ t) : v.ownBlock ≠ some g := by
  rcases h.2 with ⟨rfl, _⟩ | ⟨g', cap, cur, rfl, _, hh, _⟩
  · simp [Value.ownBlock]
  · intro he
    have : g' = g := by simpa [Value.ownBlock] using he
    subst this
    exact Bk.ne (t := e) hh hg hne rfl
end

/-- w' is w, but for block g and what is new: what a method leaves that writes through its receiver. -/
theorem by_refl (w : World) (row : Option Nat) : w.grownBy w row := ⟨rfl, rfl, rfl, Nat.le_refl _, fun _ _ _ => rfl⟩
theorem by_trans {a b c : World} {row : Option Nat} (h : a.grownBy b row) (k : b.grownBy c row) : a.grownBy c row :=
  ⟨k.os.trans h.os, k.tape.trans h.tape, k.output.trans h.output, Nat.le_trans h.size k.size, fun i hi hne => (k.block i (Nat.lt_of_lt_of_le hi h.size) hne).trans (h.block i hi hne)⟩
theorem by_below {a w : World} (h : Below a.heap.size a w) (row : Option Nat) : a.grownBy w row := ⟨h.os, h.tape, h.output, h.size, fun i hi _ => h.block i hi⟩
theorem by_set {a w : World} {g : Nat} (h : a.grownBy w (some g)) {p : Addr} (hp : p.block = g ∨ a.heap.size ≤ p.block) (u : Value) : a.grownBy (w.setCell p u) (some g) :=
  ⟨h.os, h.tape, h.output, by simpa [World.setCell] using h.size, fun i hi hne => (Below.heap_setCell w p u i (by
    rintro rfl
    rcases hp with hp | hp
    · exact hne (by rw [hp])
    · omega)).trans (h.block i hi hne)⟩
theorem by_alloc {a w : World} {row : Option Nat} (h : a.grownBy w row) (o : Obj) : a.grownBy (w.alloc o) row :=
  ⟨h.os, h.tape, h.output, Nat.le_trans h.size (by simp), fun i hi hne => (Below.heap_alloc w o i (Nat.lt_of_lt_of_le hi h.size)).trans (h.block i hi hne)⟩
theorem by_drewN {a w : World} {row : Option Nat} (h : a.grownBy w row) (n : Nat) : a.grownBy (w.drewN n) row := ⟨h.os, h.tape, h.output, h.size, h.block⟩
theorem below_of_by {w w' : World} {B : Nat} {row : Option Nat} (h : w.grownBy w' row) (hB : B ≤ w.heap.size) (hr : ∀ k, row = some k → B ≤ k) : Below B w w' :=
  (Below.refl B w).grown h hB hr
theorem below_drewN {B : Nat} {a w : World} (h : Below B a w) (n : Nat) : Below B a (w.drewN n) := ⟨h.os, h.tape, h.output, h.size, h.block⟩

theorem by_step {a b c : World} {row row' : Option Nat} (h : a.grownBy b row) (k : b.grownBy c row') (hr : row' = row ∨ ∀ g, row' = some g → a.heap.size ≤ g) : a.grownBy c row :=
  ⟨k.os.trans h.os, k.tape.trans h.tape, k.output.trans h.output, Nat.le_trans h.size k.size, fun i hi hne => (k.block i (Nat.lt_of_lt_of_le hi h.size) (by
    rcases hr with rfl | hr
    · exact hne
    · intro e
      have := hr i e.symm
      omega)).trans (h.block i hi hne)⟩
theorem row_step {a b : World} {r0 r1 r2 : Option Nat} (h : r1 = r0 ∨ ∀ k, r1 = some k → a.heap.size ≤ k) (hs : a.heap.size ≤ b.heap.size) (k : r2 = r1 ∨ r2 = some b.heap.size) :
    r2 = r0 ∨ ∀ k, r2 = some k → a.heap.size ≤ k := by
  rcases k with rfl | rfl
  · exact h
  · exact .inr fun k e => by injection e with e; omega

theorem Sl.lit (w : World) (t : TypeId) (cs : Array Value) : Sl (w.alloc (.cells cs t)) Any 1 (some ⟨w.heap.size, 0, none⟩) cs.size cs.toList :=
  ⟨by simp, fun _ => ⟨_, rfl, trivial, by simp, fun j u hu => by
    have hb := Bk.cell (Bk.new w t cs) j
    have e : (Addr.mk w.heap.size 0 none).add j = ⟨w.heap.size, j, none⟩ := by
      unfold Addr.add
      split
      · rename_i h; subst h; rfl
      · simp
    rw [e, hb]
    simpa using hu⟩⟩

theorem seq {a b c : World} (h : Below a.heap.size a b) (k : Below b.heap.size b c) : Below a.heap.size a c := h.trans (k.mono h.size)
theorem seqg {a b c : World} {g : Nat} (h : Below a.heap.size a b) (k : b.grownBy c (some g)) (hg : a.heap.size ≤ g) : Below a.heap.size a c :=
  h.grown k h.size fun x hx => by injection hx with hx; omega

/-- The second of two new blocks, behind a call that wrote through block g alone. -/
theorem blk2 {w w1 : World} {o : Obj} {cs : Array Value} {t : TypeId} {g : Nat} (hg : ((w.alloc o).alloc (.cells cs t)).grownBy w1 (some g)) (hl : g < w.heap.size) : Bk w1 (w.heap.size + 1) t cs := by
  have h := Bk.new (w.alloc o) t cs
  have e : (w.alloc o).heap.size = w.heap.size + 1 := by simp
  rw [e] at h
  exact h.grown hg (by intro e; injection e; omega)

/-- append(s, x...), s a row of the call's own, x a slice that reads (nil, empty or not). -/
theorem run_app {P : Program} (w : World) (base : Nat) (t ty e : TypeId) (i : TypeInfo) (z : Value) (sz bytes : Nat) (ht : P.underlying t = some (.slice e)) (hi : P.info? e = some i) (hz : i.zero = some z)
    (hsize : i.size = sz) (hby : i.bytes = bytes) (hzs : z.cells.size = sz) (hsz : 0 < sz)
    (v : Value) (n : Nat) (xs : List Value) (hown : w.ownsRow base e sz v n xs)
    (S : Nat → Prop) (A : Option Addr) (m c : Nat) (news : List Value) (hr : Sl w S sz A m news) (h1 : ∀ u ∈ news, u.oneCell' = true)
    (h63 : n + m ≤ maxLen) (hbytes : (n + m) * bytes ≤ 140737488355328) (hbase : base ≤ w.heap.size) :
    ∃ v' w', (Builtin.append_ #[t, t] ty #[v, .slice A m c]).run P w = .ok v' w' ∧ w'.ownsRow base e sz v' (n + m) (xs ++ news) ∧ w.grownBy w' v.ownBlock ∧
      (v'.ownBlock = v.ownBlock ∨ v'.ownBlock = some w.heap.size) := by
  by_cases hm : m = 0
  · subst hm
    have hnews : news = [] := hr.empty
    subst hnews
    rcases A with _ | ad
    · refine ⟨v, w, ?_, by simpa using hown, by_refl _ _, .inl rfl⟩
      rcases hown.2 with ⟨rfl, rfl⟩ | ⟨g, cap, cur, rfl, _, _, hnc, _⟩
      · simp [Builtin.append_, run_underlying ht, sizeOf, typeInfo, hi, Builtin.lenOf, Builtin.firstCells]
      · simp [Builtin.append_, run_underlying ht, sizeOf, typeInfo, hi, Builtin.lenOf, Builtin.firstCells, hnc, storeCells]
    · obtain ⟨v', w', a, b, c', _, d⟩ := run_append_own_at (P := P) w base t ty e i z sz bytes ht hi hz hsize hby hzs hsz v n xs hown ad 0 c [] (by simp) (by simp) (by simp) h63 hbytes hbase
      exact ⟨v', w', a, b, c', d⟩
  · obtain ⟨ad, rfl, _, _, hc⟩ := hr.cells (by omega)
    obtain ⟨v', w', a, b, c', _, d⟩ := run_append_own_at (P := P) w base t ty e i z sz bytes ht hi hz hsize hby hzs hsz v n xs hown ad m c news hr.len hc h1 h63 hbytes hbase
    exact ⟨v', w', a, b, c', d⟩

theorem wpList_app {P : Program} (w : World) {ops : Array Oper} {rest : List Oper} {o : Oper} {a : Act} {Q : Exit → Act → World → Prop} (hgd : o.guard = none) (s x : Operand) (t : TypeId)
    (ho : o.op = .call { callee := .builtin .append, args := #[s, x], argTypes := #[t, t] })
    (base : Nat) (e : TypeId) (z : Value) (sz bytes : Nat) (ht : P.underlying t = some (.slice e)) (hinfo : (P.info? e).map (fun i => (i.zero, i.size, i.bytes)) = some (some z, sz, bytes))
    (hzs : z.cells.size = sz) (hsz : 0 < sz)
    (v : Value) (n : Nat) (xs : List Value) (hs : a.eval s = v) (hown : w.ownsRow base e sz v n xs)
    (S : Nat → Prop) (A : Option Addr) (m c : Nat) (news : List Value) (hx : a.eval x = .slice A m c) (hr : Sl w S sz A m news) (h1 : ∀ u ∈ news, u.oneCell' = true)
    (h63 : n + m ≤ maxLen) (hbytes : (n + m) * bytes ≤ 140737488355328) (hbase : base ≤ w.heap.size)
    (h : ∀ v' w', w'.ownsRow base e sz v' (n + m) (xs ++ news) → w.grownBy w' v.ownBlock → (v'.ownBlock = v.ownBlock ∨ v'.ownBlock = some w.heap.size) → wpList P ops Q rest (a.put o.dst v') w') : wpList P ops Q (o :: rest) a w := by
  obtain ⟨i, hi, hz, hsize, hby⟩ := info_parts hinfo
  refine wpList_plain hgd fun K hK => ?_
  obtain ⟨v', w', hrun, h2, h3, h4⟩ := run_app (P := P) w base t o.type e i z sz bytes ht hi hz hsize hby hzs hsz v n xs hown S A m c news hr h1 h63 hbytes hbase
  unfold Oper.wp execOp
  simp only [ho, resolve, invoke, builtin, Sem.run_bind, Sem.run_pure, Result.andThen_ok, List.map_toArray, List.map_cons, List.map_nil, hs, hx, hrun]
  exact hK _ _ (h v' w' h2 h3 h4)

/-- A byte's cell. -/
def byteV (b : UInt8) : Value := .int .u8 (b.toNat : Int)
theorem byteV_one (bs : List UInt8) : ∀ u ∈ bs.map byteV, u.oneCell' = true := by
  intro u hu
  obtain ⟨b, _, rfl⟩ := List.mem_map.1 hu
  rfl
/-- The slice reads as the bytes bs. -/
def SlB (w : World) (S : Nat → Prop) (A : Option Addr) (n : Nat) (bs : List UInt8) : Prop := Sl w S 1 A n (bs.map byteV)
theorem SlB.len {w : World} {S : Nat → Prop} {A : Option Addr} {n : Nat} {bs : List UInt8} (h : SlB w S A n bs) : bs.length = n := by have := Sl.len h; simpa using this
theorem SlB.at_ {w : World} {S : Nat → Prop} {A : Option Addr} {n k : Nat} {bs : List UInt8} (h : SlB w S A n bs) (hk : k < n) :
    ∃ ad, A = some ad ∧ ad.block < w.heap.size ∧ w.cell? (ad.add k) = some (.int .u8 ((bs[k]'(by rw [h.len]; exact hk)).toNat : Int)) := by
  obtain ⟨ad, u, e, hb, _, hu, hc⟩ := Sl.at_ h hk
  refine ⟨ad, e, hb, hc.trans ?_⟩
  rw [List.getElem?_map, List.getElem?_eq_getElem (by rw [h.len]; exact hk)] at hu
  simpa [byteV] using hu.symm
theorem SlB.rest {w : World} {S : Nat → Prop} {A : Option Addr} {n k c : Nat} {bs : List UInt8} (h : SlB w S A n bs) (hk : k ≤ n) (hc : n ≤ c) :
    SlB w S (if c = k then A else Option.map (fun x => x.add k) A) (n - k) (bs.drop k) := by
  have := Sl.cut h hk hc
  unfold SlB
  rw [List.map_drop]
  simpa using this
theorem SlB.win {w : World} {S : Nat → Prop} {A : Option Addr} {n k m c : Nat} {bs : List UInt8} (h : SlB w S A n bs) (hk : k + m ≤ n) (hc : n ≤ c) :
    SlB w S (if c = k then A else Option.map (fun x => x.add k) A) (k + m - k) ((bs.drop k).take m) := by
  have := Sl.take (h.rest (k := k) (by omega) hc) (k := k + m - k) (by omega)
  unfold SlB
  rw [List.map_take]
  rw [Nat.mul_one] at this
  have e : k + m - k = m := by omega
  rw [e] at this ⊢
  exact this
theorem SlB.head {w : World} {S : Nat → Prop} {A : Option Addr} {n m : Nat} {bs : List UInt8} (h : SlB w S A n bs) (hk : m ≤ n) : SlB w S A m (bs.take m) := by
  have := Sl.take h hk
  unfold SlB
  rw [List.map_take]
  simpa using this
theorem SlB.alloc {w : World} {S : Nat → Prop} {A : Option Addr} {n : Nat} {bs : List UInt8} (h : SlB w S A n bs) (o : Obj) : SlB (w.alloc o) S A n bs := Sl.alloc h o
theorem SlB.below_all {w w' : World} {S : Nat → Prop} {A : Option Addr} {n : Nat} {bs : List UInt8} (h : SlB w S A n bs) (hb : Below w.heap.size w w') : SlB w' S A n bs := Sl.below_all h hb
theorem SlB.nil_ {w : World} {S : Nat → Prop} {A : Option Addr} : SlB w S A 0 [] := Sl.nil_
/-- The value owns the bytes bs. -/
def OwB (w : World) (base : Nat) (v : Value) (bs : List UInt8) : Prop := w.ownsRow base 5 1 v bs.length (bs.map byteV)
theorem OwB.alloc {w : World} {base : Nat} {v : Value} {bs : List UInt8} (h : OwB w base v bs) (o : Obj) : OwB (w.alloc o) base v bs := World.ownsRow.alloc h o
/-- It answers a slice of its own, which holds the bytes bs; nothing that was there has turned. -/
def RetB (w : World) (bs : List UInt8) (e : Ending) (w' : World) : Prop := ∃ v, e = .returned v ∧ OwB w' w.heap.size v bs ∧ Below w.heap.size w w'
theorem wrap_u64 {x : Int} (h0 : 0 ≤ x) (h : x < 18446744073709551616) : IntKind.u64.wrap x = x := by simp only [IntKind.wrap]; exact Int.emod_eq_of_lt h0 h
theorem ret_int {k : IntKind} {a b : Int} (h : a = b) : Ending.returned (.int k a) = .returned (.int k b) := by rw [h]
theorem ret_bool {a b : Bool} (h : a = b) : Ending.returned (.bool a) = .returned (.bool b) := by rw [h]
theorem ret_tup2 {k k' : IntKind} {a b a' b' : Int} (h : a = a') (h' : b = b') : Ending.returned (.tuple #[.int k a, .int k' b]) = .returned (.tuple #[.int k a', .int k' b']) := by rw [h, h']
theorem ret_bi {k : IntKind} {a a' : Bool} {b b' : Int} (h : a = a') (h' : b = b') : Ending.returned (.tuple #[.bool a, .int k b]) = .returned (.tuple #[.bool a', .int k b']) := by rw [h, h']
theorem ret_si {k : IntKind} {a a' : List UInt8} {b b' : Int} (h : a = a') (h' : b = b') : Ending.returned (.tuple #[.string ⟨a.toArray⟩, .int k b]) = .returned (.tuple #[.string ⟨a'.toArray⟩, .int k b']) := by rw [h, h']
theorem ret_str {a a' : List UInt8} (h : a = a') : Ending.returned (.string ⟨a.toArray⟩) = .returned (.string ⟨a'.toArray⟩) := by rw [h]
theorem vint {k : IntKind} {a b : Int} (h : a = b) : Value.int k a = .int k b := by rw [h]

end Go.Proofs.YtoadplnbajmcbaaGreatDoor

/- What a law's arguments are, as values, when they read as data: numbers, texts, lists of bytes, things, lists of things. -/
namespace Go.Proofs.YtoadplnbajmcbaaGreatDoor
open Go.ChangeShapes Go.WideShapes Go.ChangeAt Go.RowKit

theorem wf_i64 {n : Int} (h : (Lit.int .i64 n).wf = true) : -9223372036854775808 ≤ n ∧ n ≤ 9223372036854775807 := by
  have := bounds_i64 h
  omega
theorem wf_u8 {n : Int} (h : (Lit.int .u8 n).wf = true) : 0 ≤ n ∧ n < 256 := by
  have := bounds_u8 h
  omega

section
variable {H : Type} {enc : TypeId × Value → H} {P : Program} {W : World} {r : Reach} {b0 : Nat}

theorem open_bytes {t e : TypeId} {v : Value} {d : DataW H} {p : List MemPlace} (ht : P.underlying t = some (.slice e)) (he : P.underlying e = some (.int .u8)) (hC : P.cellsOf e = 1)
    (hv : Value.okWide P W r b0 t v) (h : DataW.Trod enc P W 0 (fun _ => true) true t v d p) :
    ∃ (A : Option Addr) (n c : Nat) (bs : List UInt8), v = .slice A n c ∧ SlB W Any A n bs ∧ n ≤ c ∧ c ≤ maxLen := by
  obtain ⟨A, n, c, rfl⟩ := okWide_slice ht hv
  obtain ⟨fuel, hf⟩ := h
  rcases open_ints ht he hC hf with ⟨hcs, _⟩ | ⟨a, l, cap, zs, hcs, _, hl, hm, hz, hx, hcell, hwz⟩
  · simp [Value.cells] at hcs
    obtain ⟨rfl, rfl, rfl⟩ := hcs
    exact ⟨none, 0, 0, [], rfl, Sl.nil_, Nat.le_refl _, Nat.zero_le _⟩
  · simp [Value.cells] at hcs
    obtain ⟨rfl, rfl, rfl⟩ := hcs
    have hzc : zs.length = c := by simpa using hz
    refine ⟨some a, n, c, (zs.take n).map fun z => UInt8.ofNat z.toNat, rfl, ⟨by simp; omega, fun hn => ⟨a, rfl, trivial, ?_, ?_⟩⟩, hl, hm⟩
    · have := cell_lt (hcell 0 (by omega))
      rwa [add_block] at this
    · intro j u hu
      rw [List.getElem?_map, List.getElem?_map, List.getElem?_take] at hu
      split at hu
      · rename_i hj
        have hjz : j < zs.length := by omega
        rw [List.getElem?_eq_getElem hjz] at hu
        simp only [Option.map_some, Option.some.injEq] at hu
        rw [hcell j hjz, ← hu]
        have hw := wf_u8 (hwz _ (List.getElem_mem hjz))
        have : zs.getD j 0 = zs[j] := by simp [hjz]
        rw [this]
        unfold byteV
        rw [show (UInt8.ofNat (zs[j].toNat)).toNat = zs[j].toNat by simp; omega]
        simp
        omega
      · simp at hu

/-- A thing of layer 1's statements: its kind, its number, its text. -/
structure Th where
  k : UInt8
  n : Int
  s : ByteArray
def Th.cells (t : Th) : List Value := [.int .u8 (t.k.toNat : Int), .int .i64 t.n, .string t.s]
def Th.val (t : Th) : Value := .agg #[.int .u8 (t.k.toNat : Int), .int .i64 t.n, .string t.s]
def Th.ok (t : Th) : Prop := -9223372036854775808 ≤ t.n ∧ t.n ≤ 9223372036854775807 ∧ t.s.size ≤ 140737488351232

def Th.data (t : Th) : DataW H := .agg [.lit (.int .u8 (t.k.toNat : Int)), .lit (.int .i64 t.n), .lit (.string t.s.data.toList)]
theorem mem_weightsAll {e : TypeId} {l : List (DataW H)} {d : DataW H} (h : d ∈ l) {m : Nat} (hm : m ∈ d.weights P e) : m ∈ DataW.weightsAll P e l := by
  induction l with
  | nil => cases h
  | cons a r ih =>
    rw [DataW.weightsAll]
    rcases List.mem_cons.1 h with rfl | h
    · exact List.mem_append_left _ hm
    · exact List.mem_append_right _ (ih h)

/-- The cells of a thing. -/
theorem thing_cells {t : TypeId} {g0 g1 g2 : Field} (ht : P.underlying t = some (.struct #[g0, g1, g2])) (e0 : g0.offset = 0 ∧ g1.offset = 1 ∧ g2.offset = 2)
    (h0 : P.underlying g0.type = some (.int .u8)) (h1 : P.underlying g1.type = some (.int .i64)) (h2 : P.underlying g2.type = some .string)
    (hc : P.cellsOf g0.type = 1 ∧ P.cellsOf g1.type = 1 ∧ P.cellsOf g2.type = 1) (h3 : P.cellsOf t = 3)
    {w : World} {n : Nat} {cs : List Value} {x : DataW H × List MemPlace} (h : DataW.trod enc P w 0 (fun _ => true) true n t cs = some x) :
    ∃ a : Th, ((∀ m ∈ x.1.weights P t, m ≤ reachBytes) → a.ok) ∧ cs = a.cells := by
  obtain ⟨xs, m, _, hxs, hlen, hxl, hg⟩ := DataW.trod_struct ht h
  rw [h3] at hlen
  match cs, hlen with
  | [c0, c1, c2], _ =>
    have q0 := hg 0 g0 rfl
    have q1 := hg 1 g1 rfl
    have q2 := hg 2 g2 rfl
    rw [e0.1, hc.1] at q0
    rw [e0.2.1, hc.2.1] at q1
    rw [e0.2.2, hc.2.2] at q2
    simp only [List.drop_zero, List.drop_succ_cons, List.take_succ_cons, List.take_zero] at q0 q1 q2
    have hx : ∀ (i : Nat) (f : Field), (#[g0, g1, g2] : Array Field)[i]? = some f → ∃ y, xs[i]? = some y := by
      intro i f hf
      have hi : i < 3 := (Array.getElem?_eq_some_iff.1 hf).1
      have hl : xs.length = 3 := hxl
      exact ⟨_, List.getElem?_eq_getElem (by omega)⟩
    obtain ⟨y0, hy0⟩ := hx 0 g0 rfl
    obtain ⟨y1, hy1⟩ := hx 1 g1 rfl
    obtain ⟨y2, hy2⟩ := hx 2 g2 rfl
    obtain ⟨a0, r0, s0, w0⟩ := DataW.trod_int h0 (q0.trans hy0)
    obtain ⟨a1, r1, s1, w1⟩ := DataW.trod_int h1 (q1.trans hy1)
    obtain ⟨a2, r2, s2, w2⟩ := DataW.trod_string h2 (q2.trans hy2)
    simp only [List.cons.injEq, and_true] at r0 r1 r2
    subst r0; subst r1; subst r2
    have b0 := wf_u8 w0
    have b1 := wf_i64 w1
    have hx1 : x.1 = .agg [.lit (.int .u8 a0), .lit (.int .i64 a1), .lit (.string a2.data.toList)] := by
      rw [hxs]
      have e : xs = [y0, y1, y2] := by
        apply List.ext_getElem?
        intro i
        match i with
        | 0 => exact hy0
        | 1 => exact hy1
        | 2 => exact hy2
        | i + 3 =>
          have hl : xs.length = 3 := hxl
          rw [List.getElem?_eq_none (by omega)]
          rfl
      rw [e, s0, s1, s2]
      rfl
    refine ⟨⟨UInt8.ofNat a0.toNat, a1, a2⟩, fun hz => ⟨b1.1, b1.2, ?_⟩, ?_⟩
    · have := hz a2.size (by rw [hx1]; simp [DataW.weights, DataW.weightsEach, ht])
      exact this
    simp only [Th.cells]
    rw [show (UInt8.ofNat a0.toNat).toNat = a0.toNat by simp; omega, show ((a0.toNat : Nat) : Int) = a0 by omega]

theorem open_thing {t : TypeId} {g0 g1 g2 : Field} (ht : P.underlying t = some (.struct #[g0, g1, g2])) (e0 : g0.offset = 0 ∧ g1.offset = 1 ∧ g2.offset = 2)
    (h0 : P.underlying g0.type = some (.int .u8)) (h1 : P.underlying g1.type = some (.int .i64)) (h2 : P.underlying g2.type = some .string)
    (hc : P.cellsOf g0.type = 1 ∧ P.cellsOf g1.type = 1 ∧ P.cellsOf g2.type = 1) (h3 : P.cellsOf t = 3)
    {v : Value} {d : DataW H} {p : List MemPlace} (hv : Value.okWide P W r b0 t v) (h : DataW.Trod enc P W 0 (fun _ => true) true t v d p) (hz : ∀ m ∈ d.weights P t, m ≤ reachBytes) : ∃ a : Th, a.ok ∧ v = a.val := by
  obtain ⟨cs, rfl, _⟩ := okWide_struct ht hv
  obtain ⟨fuel, hf⟩ := h
  obtain ⟨a, ha, hcs⟩ := thing_cells ht e0 h0 h1 h2 hc h3 hf
  refine ⟨a, ha hz, ?_⟩
  simp only [Value.cells] at hcs
  unfold Th.val
  congr 1
  exact Array.toList_inj.1 hcs

/-- The slice reads as the things ts. -/
def SlT (w : World) (S : Nat → Prop) (A : Option Addr) (n : Nat) (ts : List Th) : Prop := Sl w S 3 A n (ts.flatMap Th.cells)

theorem flat_at (ts : List Th) : ∀ (i j : Nat) (a : Th), ts[i]? = some a → j < 3 → (ts.flatMap Th.cells)[i * 3 + j]? = a.cells[j]? := by
  induction ts with
  | nil => intro i j a h; simp at h
  | cons b r ih =>
    intro i j a h hj
    rw [List.flatMap_cons]
    cases i with
    | zero =>
      simp only [List.getElem?_cons_zero, Option.some.injEq] at h
      subst h
      rw [Nat.zero_mul, Nat.zero_add, List.getElem?_append_left (by simp [Th.cells]; omega)]
    | succ i =>
      rw [List.getElem?_cons_succ] at h
      rw [List.getElem?_append_right (by simp [Th.cells]; omega)]
      rw [← ih i j a h hj]
      congr 1
      simp [Th.cells]
      omega
theorem flat_len (ts : List Th) : (ts.flatMap Th.cells).length = ts.length * 3 := by
  induction ts with
  | nil => rfl
  | cons a r ih => rw [List.flatMap_cons, List.length_append, ih]; simp [Th.cells]; omega
theorem SlT.len {w : World} {S : Nat → Prop} {A : Option Addr} {n : Nat} {ts : List Th} (h : SlT w S A n ts) : ts.length = n := by
  have := Sl.len h
  rw [flat_len] at this
  omega
theorem SlT.at_ {w : World} {S : Nat → Prop} {A : Option Addr} {n i : Nat} {ts : List Th} (h : SlT w S A n ts) (hi : i < n) (a : Th) (ha : ts[i]? = some a) :
    ∃ ad, A = some ad ∧ ad.block < w.heap.size ∧ w.cell? (ad.add (i * 3)) = some (.int .u8 (a.k.toNat : Int)) ∧ w.cell? (ad.add (i * 3 + 1)) = some (.int .i64 a.n) ∧ w.cell? (ad.add (i * 3 + 2)) = some (.string a.s) := by
  obtain ⟨ad, e, _, hb, hc⟩ := Sl.cells h (by omega)
  exact ⟨ad, e, hb, hc _ _ (by rw [show i * 3 = i * 3 + 0 from rfl, flat_at ts i 0 a ha (by omega)]; rfl), hc _ _ (by rw [flat_at ts i 1 a ha (by omega)]; rfl), hc _ _ (by rw [flat_at ts i 2 a ha (by omega)]; rfl)⟩

theorem flat_of (f : Nat → Th) (n j : Nat) (u : Value) (h : (((List.range n).map f).flatMap Th.cells)[j]? = some u) : j / 3 < n ∧ (f (j / 3)).cells[j % 3]? = some u := by
  have hl : j < n * 3 := by
    have := (List.getElem?_eq_some_iff.1 h).1
    rw [flat_len] at this
    simpa using this
  have hj : j / 3 < n := by omega
  refine ⟨hj, ?_⟩
  rw [← h, show j = j / 3 * 3 + j % 3 by omega]
  rw [flat_at _ (j / 3) (j % 3) (f (j / 3)) (by simp [hj]) (by omega)]
  rw [show (j / 3 * 3 + j % 3) / 3 = j / 3 by omega, show (j / 3 * 3 + j % 3) % 3 = j % 3 by omega]

theorem open_things {t e : TypeId} {g0 g1 g2 : Field} (hsl : P.underlying t = some (.slice e)) (ht : P.underlying e = some (.struct #[g0, g1, g2])) (e0 : g0.offset = 0 ∧ g1.offset = 1 ∧ g2.offset = 2)
    (h0 : P.underlying g0.type = some (.int .u8)) (h1 : P.underlying g1.type = some (.int .i64)) (h2 : P.underlying g2.type = some .string)
    (hc : P.cellsOf g0.type = 1 ∧ P.cellsOf g1.type = 1 ∧ P.cellsOf g2.type = 1) (h3 : P.cellsOf e = 3)
    {v : Value} {d : DataW H} {p : List MemPlace} (hv : Value.okWide P W r b0 t v) (h : DataW.Trod enc P W 0 (fun _ => true) true t v d p) (hz : ∀ m ∈ d.weights P t, m ≤ reachBytes) :
    ∃ (A : Option Addr) (n c : Nat) (ts : List Th), v = .slice A n c ∧ SlT W Any A n ts ∧ (∀ a ∈ ts, a.ok) ∧ n ≤ c ∧ c ≤ maxLen := by
  obtain ⟨A, n, c, rfl⟩ := okWide_slice hsl hv
  obtain ⟨fuel, hf⟩ := h
  rcases Go.Deep.open_slice hsl hf with ⟨hcs, _⟩ | ⟨a, len, cap, m, q, D, Pl, hcs, hb, hl, hm, hmm, hx, hi⟩
  · simp [Value.cells] at hcs
    obtain ⟨rfl, rfl, rfl⟩ := hcs
    exact ⟨none, 0, 0, [], rfl, Sl.nil_, by simp, Nat.le_refl _, Nat.zero_le _⟩
  · simp [Value.cells] at hcs
    obtain ⟨rfl, rfl, rfl⟩ := hcs
    have hmc : m = c := by simpa using hmm
    subst hmc
    have hx1 : d = .slice ((List.range n).map D) ((List.range (m - n)).map fun j => D (n + j)) := by
      injection hx
    have hth : ∀ i, ∃ b : Th, (i < n → b.ok) ∧ (i < m → W.cells? 0 (a.add (i * 3)) 3 = some b.cells) := by
      intro i
      by_cases him : i < m
      · obtain ⟨cs', hcl, htr⟩ := hi i him
        rw [h3] at hcl
        obtain ⟨b, hbk, rfl⟩ := thing_cells ht e0 h0 h1 h2 hc h3 htr
        refine ⟨b, fun hin => hbk fun q hq => hz q ?_, fun _ => hcl⟩
        rw [hx1]
        simp only [DataW.weights, hsl]
        exact List.mem_cons_of_mem _ (List.mem_append_left _ (mem_weightsAll (List.mem_map.2 ⟨i, List.mem_range.2 hin, rfl⟩) hq))
      · exact ⟨⟨0, 0, ByteArray.empty⟩, fun _ => ⟨by decide, by decide, Nat.zero_le _⟩, fun h => absurd h him⟩
    let f : Nat → Th := fun i => Classical.choose (hth i)
    have hf1 : ∀ i, i < n → (f i).ok := fun i => (Classical.choose_spec (hth i)).1
    have hf2 : ∀ i, i < m → W.cells? 0 (a.add (i * 3)) 3 = some (f i).cells := fun i => (Classical.choose_spec (hth i)).2
    have key : ∀ j u, (((List.range n).map f).flatMap Th.cells)[j]? = some u → W.cell? (a.add j) = some u := by
      intro j u hu
      obtain ⟨hj, hcell⟩ := flat_of f n j u hu
      obtain ⟨_, hcl, hat⟩ := World.cells?_some (hf2 (j / 3) (by omega))
      have := hat (j % 3) (by omega)
      rw [add_add, show j / 3 * 3 + j % 3 = j by omega] at this
      exact this.trans hcell
    refine ⟨some a, n, m, (List.range n).map f, rfl, ⟨by rw [flat_len]; simp, fun hn => ⟨a, rfl, trivial, ?_, key⟩⟩, ?_, hl, hm⟩
    · have := key 0 (.int .u8 ((f 0).k.toNat : Int)) (by
        have := flat_at ((List.range n).map f) 0 0 (f 0) (by simp [hn]) (by omega)
        exact this)
      have := cell_lt this
      rwa [add_block] at this
    · intro b hb
      obtain ⟨i, hir, rfl⟩ := List.mem_map.1 hb
      exact hf1 i (List.mem_range.1 hir)

end
end Go.Proofs.YtoadplnbajmcbaaGreatDoor

/- Whatever is handed in, of texts, numbers, bools, lists and structs, however deep: as rows of the machine. -/
namespace Go.Am
open Go.ChangeShapes Go.WideShapes Go.ChangeAt Go.RowKit
set_option linter.unusedVariables false
/-- Fields that stand one behind the other. -/
def tile (P : Program) : Nat → List Field → Nat → Bool
  | k, [], m => Nat.beq k m
  | k, f :: r, m => Nat.beq f.offset k && tile P (k + P.cellsOf f.type) r m
/-- Types of which that is so. -/
def tyOk (P : Program) : Nat → TypeId → Bool
  | 0, _ => false
  | n + 1, t => match P.underlying t with
    | some .bool => true
    | some (.int _) => true
    | some .string => true
    | some (.slice e) => tyOk P n e && Nat.blt 0 (P.cellsOf e)
    | some (.struct fs) => fs.toList.all (fun f => tyOk P n f.type) && tile P 0 fs.toList (P.cellsOf t)
    | _ => false
/-- What stands in these cells, as the data that it is. -/
def Here (P : Program) {H : Type} (L : RL) : Nat → TypeId → List Value → DataW H → Prop
  | 0, _, _, _ => False
  | n + 1, t, cs, d => match P.underlying t with
    | some .bool => ∃ b, cs = [.bool b] ∧ d = .lit (.bool b)
    | some (.int k) => ∃ m, cs = [.int k m] ∧ d = .lit (.int k m) ∧ (Lit.int k m).wf = true
    | some .string => ∃ s : ByteArray, cs = [.string s] ∧ d = .lit (.string s.data.toList)
    | some (.slice e) => ∃ (v : Value) (l : List (List Value × DataW H)) (sp : List (DataW H)), cs = [v] ∧ RO (P.cellsOf e) L v l.length (l.flatMap Prod.fst) ∧ (d = .slice (l.map Prod.snd) sp ∨ (d = .nil ∧ l = [])) ∧ ∀ x, x ∈ l → x.1.length = P.cellsOf e ∧ Here P L n e x.1 x.2
    | some (.struct fs) => ∃ l : List (List Value × DataW H), cs = l.flatMap Prod.fst ∧ d = .agg (l.map Prod.snd) ∧ l.length = fs.size ∧ ∀ (i : Nat) (f : Field) (x : List Value × DataW H), fs[i]? = some f → l[i]? = some x → Here P L n f.type x.1 x.2
    | _ => False
section
variable {H : Type} {enc : TypeId × Value → H} {P : Program} {w : World}
theorem Here.mono {L L' : RL} (hm : ∀ p, p ∈ L → p ∈ L') : ∀ (n : Nat) {t : TypeId} {cs : List Value} {d : DataW H}, Here P L n t cs d → Here P L' n t cs d
  | 0, _, _, _, h => h
  | n + 1, t, cs, d, h => by
    unfold Here at h ⊢
    split at h
    · exact h
    · exact h
    · exact h
    · obtain ⟨v, l, sp, h1, h2, h3, h4⟩ := h
      exact ⟨v, l, sp, h1, h2.mono hm, h3, fun x hx => ⟨(h4 x hx).1, Here.mono hm n (h4 x hx).2⟩⟩
    · obtain ⟨l, h1, h2, h3, h4⟩ := h
      exact ⟨l, h1, h2, h3, fun i f x hf hx => Here.mono hm n (h4 i f x hf hx)⟩
    · exact h
structure Ent (P : Program) (w : World) (ρ : Env) (h : AW) (L : RL) : Prop where
  rel : HRel P ρ h w
  ro : ∀ r row, h.get r = some row → row.own = false
  has : Has h L
theorem enterR {ρ : Env} {h : AW} {L : RL} (E : Ent P w ρ h L) (l : Loc) (cs : List Value) (hb : l.block < w.heap.size)
    (hc : ∀ i v, cs[i]? = some v → ∃ u, w.cell? ⟨l.block, l.base + i, none⟩ = some u ∧ VRel ρ v u) :
    ∃ r ρ' h', ρ.le ρ' ∧ ρ' r = some l ∧ Ent P w ρ' h' ((r, .ro cs) :: L) := by
  obtain ⟨HR, ro, H⟩ := E
  obtain ⟨h', e⟩ := h.new_some (.ro cs)
  obtain ⟨_, hg, hn, hs⟩ := new_eq e
  have hnone : ρ h.next = none := HR.fresh0
  have le := upd_le (l := l) hnone
  have ro' : ∀ r row, h'.get r = some row → row.own = false := fun r row hr => by
    rw [hg] at hr
    split at hr
    · simp at hr; subst hr; rfl
    · exact ro r row hr
  refine ⟨h.next, upd ρ h.next l, h', le, by simp [upd], ⟨fun r row hr => ?_, fun r r' row row' l₁ l₂ h1 h2 _ _ _ ho => ?_, fresh_upd HR rfl hn hs, by rw [hs]; exact HR.step⟩, ro', H.new e⟩
  · rw [hg] at hr
    split at hr
    · simp at hr; subst hr; subst_vars
      exact ⟨l, by simp [upd], hb, fun i v hv => let ⟨u, a, b⟩ := hc i v hv; ⟨u, a, b.mono le⟩⟩
    · obtain ⟨l', hl', hr'⟩ := HR.loc r row hr
      exact ⟨l', le _ _ hl', hr'.keep le rfl⟩
  · rw [ro' r row h1, ro' r' row' h2] at ho; simp at ho
theorem cell_there {w : World} {a : Addr} {v : Value} (h : w.cell? a = some v) : a.spot = none ∧ a.block < w.heap.size := by
  unfold World.cell? at h
  split at h
  · rename_i hb
    split at h
    · cases h
    · rename_i hs
      refine ⟨by simpa using hs, (Array.getElem?_eq_some_iff.1 hb).1⟩
  · cases h
theorem flat_len {A : Type} {sz : Nat} : ∀ (l : List (List Value × A)), (∀ x, x ∈ l → x.1.length = sz) → (l.flatMap Prod.fst).length = l.length * sz
  | [], _ => by simp
  | x :: r, h => by
    rw [List.flatMap_cons, List.length_append, flat_len r fun y hy => h y (List.mem_cons_of_mem _ hy), h x (List.mem_cons_self ..), List.length_cons, Nat.add_mul]; omega
theorem flat_at {A : Type} {sz : Nat} (hsz : 0 < sz) : ∀ (l : List (List Value × A)), (∀ x, x ∈ l → x.1.length = sz) → ∀ (i : Nat) (v : Value), (l.flatMap Prod.fst)[i]? = some v → ∃ x, l[i / sz]? = some x ∧ x.1[i % sz]? = some v
  | [], _, i, v, h => by simp at h
  | x :: r, hl, i, v, h => by
    have hx := hl x (List.mem_cons_self ..)
    rw [List.flatMap_cons] at h
    by_cases hi : i < sz
    · rw [List.getElem?_append_left (by omega)] at h
      exact ⟨x, by rw [Nat.div_eq_of_lt hi]; rfl, by rw [Nat.mod_eq_of_lt hi]; exact h⟩
    · rw [List.getElem?_append_right (by omega), hx] at h
      obtain ⟨y, h1, h2⟩ := flat_at hsz r (fun y hy => hl y (List.mem_cons_of_mem _ hy)) (i - sz) v h
      refine ⟨y, ?_, ?_⟩
      · rw [Nat.div_eq_sub_div hsz (by omega), List.getElem?_cons_succ]; exact h1
      · rw [Nat.mod_eq_sub_mod (by omega)]; exact h2
abbrev Enters (enc : TypeId × Value → H) (P : Program) (w : World) (n : Nat) : Prop := ∀ (fuel : Nat) (t : TypeId) (cs : List Value) (x : DataW H × List MemPlace) (ρ : Env) (h : AW) (L : RL), tyOk P n t = true → DataW.trod enc P w 0 (fun _ => true) true fuel t cs = some x → Ent P w ρ h L →
  ∃ (us : List Value) (ρ' : Env) (h' : AW) (L' : RL), ρ.le ρ' ∧ LRel ρ' us cs ∧ Ent P w ρ' h' L' ∧ Here P L' n t us x.1 ∧ ∀ p, p ∈ L → p ∈ L'
theorem enter_fields {n : Nat} (ih : Enters enc P w n) (fuel : Nat) {cs : List Value} : ∀ (fs : List Field) (k : Nat) (xs : List (DataW H × List MemPlace)) {ρ : Env} {h : AW} {L : RL}, (fs.all fun f => tyOk P n f.type) = true → tile P k fs cs.length = true → xs.length = fs.length →
    (∀ (i : Nat) (f : Field), fs[i]? = some f → DataW.trod enc P w 0 (fun _ => true) true fuel f.type ((cs.drop f.offset).take (P.cellsOf f.type)) = xs[i]?) → Ent P w ρ h L →
    ∃ (l : List (List Value × DataW H)) (ρ' : Env) (h' : AW) (L' : RL), ρ.le ρ' ∧ LRel ρ' (l.flatMap Prod.fst) (cs.drop k) ∧ Ent P w ρ' h' L' ∧ l.map Prod.snd = xs.map Prod.fst ∧ l.length = fs.length ∧
      (∀ (i : Nat) (f : Field) (x : List Value × DataW H), fs[i]? = some f → l[i]? = some x → Here P L' n f.type x.1 x.2) ∧ ∀ p, p ∈ L → p ∈ L'
  | [], k, xs, ρ, h, L, _, ht, hl, _, E => by
    have hk : k = cs.length := by simpa [tile] using ht
    have hx : xs = [] := List.eq_nil_of_length_eq_zero (by simpa using hl)
    subst hx
    exact ⟨[], ρ, h, L, Env.le_refl _, by rw [hk]; simp; exact .nil, E, rfl, rfl, fun i f x hf => by simp at hf, fun _ hp => hp⟩
  | f :: r, k, xs, ρ, h, L, ha, ht, hl, hg, E => by
    cases xs with
    | nil => simp at hl
    | cons x xs =>
      simp only [List.all_cons, Bool.and_eq_true] at ha
      simp only [tile, Bool.and_eq_true, Nat.beq_eq] at ht
      have h0 := hg 0 f rfl
      rw [ht.1] at h0
      obtain ⟨us, ρ1, h1, L1, le1, lr1, E1, he1, sb1⟩ := ih fuel f.type _ x ρ h L ha.1 h0 E
      obtain ⟨l, ρ2, h2, L2, le2, lr2, E2, hm, hlen, hall, sb2⟩ := enter_fields ih fuel r (k + P.cellsOf f.type) xs ha.2 ht.2 (by simpa using hl) (fun i g hi => by have := hg (i + 1) g (by simpa using hi); simpa using this) E1
      refine ⟨(us, x.1) :: l, ρ2, h2, L2, fun a b c => le2 a b (le1 a b c), ?_, E2, by simp [hm], by simp [hlen], fun i g y hi hy => ?_, fun p hp => sb2 p (sb1 p hp)⟩
      · rw [List.flatMap_cons, ← List.take_append_drop (P.cellsOf f.type) (cs.drop k), List.drop_drop]
        exact (lr1.mono le2).append lr2
      · cases i with
        | zero => simp at hi hy; subst hi; subst hy; exact he1.mono sb2
        | succ i => simp at hi hy; exact hall i g y hi hy
theorem enter_elems {n : Nat} (ih : Enters enc P w n) (fuel : Nat) {e : TypeId} {a : Addr} {D : Nat → DataW H} {Pl : Nat → List MemPlace} (he : tyOk P n e = true) {ρ : Env} {h : AW} {L : RL} (E : Ent P w ρ h L) : ∀ (k : Nat), (∀ i, i < k → ∃ cs', w.cells? 0 (a.add (i * P.cellsOf e)) (P.cellsOf e) = some cs' ∧ DataW.trod enc P w 0 (fun _ => true) true fuel e cs' = some (D i, Pl i)) →
    ∃ (l : List (List Value × DataW H)) (ρ' : Env) (h' : AW) (L' : RL), ρ.le ρ' ∧ Ent P w ρ' h' L' ∧ l.length = k ∧ l.map Prod.snd = (List.range k).map D ∧
      (∀ (i : Nat) (x : List Value × DataW H), l[i]? = some x → Here P L' n e x.1 x.2 ∧ x.1.length = P.cellsOf e ∧ ∀ (j : Nat) (v : Value), x.1[j]? = some v → ∃ u, w.cell? (a.add (i * P.cellsOf e + j)) = some u ∧ VRel ρ' v u) ∧ ∀ p, p ∈ L → p ∈ L'
  | 0, _ => ⟨[], ρ, h, L, Env.le_refl _, E, rfl, rfl, fun i x hx => by simp at hx, fun _ hp => hp⟩
  | k + 1, hi => by
    obtain ⟨l, ρ1, h1, L1, le1, E1, hl, hD, hall, sb1⟩ := enter_elems ih fuel he E k fun i hk => hi i (by omega)
    obtain ⟨cs', hc, ht⟩ := hi k (by omega)
    obtain ⟨us, ρ2, h2, L2, le2, lr2, E2, he2, sb2⟩ := ih fuel e cs' _ ρ1 h1 L1 he ht E1
    obtain ⟨_, hcl, hat⟩ := World.cells?_some hc
    refine ⟨l ++ [(us, D k)], ρ2, h2, L2, fun a b c => le2 a b (le1 a b c), E2, by simp [hl], by simp [hD, List.range_succ], fun i x hx => ?_, fun p hp => sb2 p (sb1 p hp)⟩
    by_cases hik : i < k
    · rw [List.getElem?_append_left (by omega)] at hx
      obtain ⟨q1, q2, q3⟩ := hall i x hx
      exact ⟨q1.mono sb2, q2, fun j v hv => by obtain ⟨u, q4, q5⟩ := q3 j v hv; exact ⟨u, q4, q5.mono le2⟩⟩
    · have hik' : i = k := by
        have := (List.getElem?_eq_some_iff.1 hx).1
        simp at this; omega
      subst hik'
      rw [List.getElem?_append_right (by omega), hl, Nat.sub_self] at hx
      simp at hx; subst hx
      refine ⟨he2, by rw [lr2.length, hcl], fun j v hv => ?_⟩
      obtain ⟨u, hu, hvu⟩ := lr2.get hv
      have hj : j < cs'.length := (List.getElem?_eq_some_iff.1 hu).1
      refine ⟨u, ?_, hvu⟩
      rw [← Addr.add_add, hat j (by omega), hu]
theorem enter_any (blk : Nat) (hblk : blk < w.heap.size) : ∀ n, Enters enc P w n
  | 0 => fun fuel t cs x ρ h L ht => by simp [tyOk] at ht
  | n + 1 => fun fuel t cs x ρ h L ht hx E => by
    have ih := enter_any blk hblk n
    unfold tyOk at ht
    split at ht
    · rename_i hu
      obtain ⟨b, rfl, rfl⟩ := DataW.trod_bool hu hx
      refine ⟨_, ρ, h, L, Env.le_refl _, .cons (.bool b) .nil, E, ?_, fun _ hp => hp⟩
      unfold Here; rw [hu]; exact ⟨b, rfl, rfl⟩
    · rename_i k hu
      obtain ⟨m, rfl, rfl, hwf⟩ := DataW.trod_int hu hx
      refine ⟨_, ρ, h, L, Env.le_refl _, .cons (.int k m) .nil, E, ?_, fun _ hp => hp⟩
      unfold Here; rw [hu]; exact ⟨m, rfl, rfl, hwf⟩
    · rename_i hu
      obtain ⟨s, rfl, rfl, hs⟩ := DataW.trod_string hu hx
      refine ⟨_, ρ, h, L, Env.le_refl _, .cons (.string s) .nil, E, ?_, fun _ hp => hp⟩
      unfold Here; rw [hu]; exact ⟨s, rfl, rfl⟩
    · rename_i e hu
      simp only [Bool.and_eq_true] at ht
      have hsz : 0 < P.cellsOf e := by simpa [Nat.blt_eq] using ht.2
      rcases Go.Deep.open_slice hu hx with ⟨rfl, rfl⟩ | ⟨a, len, cap, m, q, D, Pl, rfl, hb, hl, hm, hmm, rfl, hi⟩
      · refine ⟨_, ρ, h, L, Env.le_refl _, .cons .sliceNil .nil, E, ?_, fun _ hp => hp⟩
        unfold Here; rw [hu]; exact ⟨_, [], [], rfl, .inl ⟨rfl, rfl, rfl⟩, .inr ⟨rfl, rfl⟩, fun x hx => by cases hx⟩
      · have hmc : m = cap := by simpa using hmm
        subst hmc
        by_cases hc0 : m = 0
        · subst hc0
          have hl0 : len = 0 := by omega
          subst hl0
          obtain ⟨r, ρ1, h1, le1, hr, E1⟩ := enterR E ⟨blk, 0, 0, 0⟩ [] hblk (fun i v hv => by simp at hv)
          refine ⟨[.slice (some ⟨r, 0, none⟩) 0 0], ρ1, h1, _, le1, .cons (.slice (Nat.le_refl _) (fun _ => rfl) (fun h => absurd rfl h)) .nil, E1, ?_, fun p hp => List.mem_cons_of_mem _ hp⟩
          unfold Here; rw [hu]
          exact ⟨_, [], (List.range (0 - 0)).map fun j => D (0 + j), rfl, .inr ⟨r, 0, rfl, Nat.le_refl _, by unfold openCap; omega, List.mem_cons_self .., by simp⟩, .inl rfl, fun x hx => by cases hx⟩
        · obtain ⟨l, ρ1, h1, L1, le1, E1, hll, hD, hall, sb1⟩ := enter_elems ih q ht.1 E len fun i hk => hi i (by omega)
          obtain ⟨cs0, hc0', _⟩ := hi 0 (by omega)
          obtain ⟨_, hcl, hat⟩ := World.cells?_some hc0'
          have hhere : a.spot = none ∧ a.block < w.heap.size := by
            have := hat 0 hsz
            rw [Addr.add_add] at this
            cases hv : cs0[0]? with
            | none => rw [List.getElem?_eq_none_iff] at hv; omega
            | some v => rw [hv, Nat.zero_mul, Nat.zero_add] at this; exact cell_there (a := a) this
          obtain ⟨bl, off, spot⟩ := a
          obtain ⟨hsp, hblk'⟩ := hhere
          simp only at hsp hblk'
          subst hsp
          have hlen : ∀ x, x ∈ l → x.1.length = P.cellsOf e := fun x hx => by obtain ⟨i, hi⟩ := List.getElem?_of_mem hx; exact (hall i x hi).2.1
          obtain ⟨r, ρ2, h2, le2, hr, E2⟩ := enterR E1 ⟨bl, off, 0, 0⟩ (l.flatMap Prod.fst) hblk' (fun i v hv => by
            obtain ⟨x, q1, q2⟩ := flat_at hsz l hlen i v hv
            obtain ⟨u, q3, q4⟩ := (hall _ x q1).2.2 _ v q2
            rw [Nat.mul_comm, Nat.div_add_mod, add_eq] at q3
            exact ⟨u, q3, q4⟩)
          refine ⟨[.slice (some ⟨r, 0, none⟩) len m], ρ2, h2, _, fun a b c => le2 a b (le1 a b c), .cons (.slice hl (fun _ => rfl) fun _ => ⟨_, hr, rfl, fun hh => ?_⟩) .nil, E2, ?_, fun p hp => List.mem_cons_of_mem _ (sb1 p hp)⟩
          · exfalso; unfold maxLen at hm; unfold openCap at hh; omega
          · unfold Here; rw [hu]
            refine ⟨_, l, (List.range (m - len)).map fun j => D (len + j), rfl, .inr ⟨r, m, by rw [hll], by omega, by unfold maxLen at hm; unfold openCap; omega, List.mem_cons_self .., flat_len l hlen⟩, .inl (by rw [hD]), fun x hx => ⟨hlen x hx, ?_⟩⟩
            obtain ⟨i, hi⟩ := List.getElem?_of_mem hx
            exact ((hall i x hi).1).mono fun p hp => List.mem_cons_of_mem _ hp
    · rename_i fs hu
      simp only [Bool.and_eq_true] at ht
      obtain ⟨xs, m, rfl, rfl, hlen, hxl, hg⟩ := DataW.trod_struct hu hx
      obtain ⟨l, ρ1, h1, L1, le1, lr1, E1, hD, hll, hall, sb1⟩ := enter_fields ih m fs.toList 0 xs ht.1 (by rw [hlen]; exact ht.2) (by simpa using hxl) (fun i f hf => hg i f (by simpa using hf)) E
      refine ⟨_, ρ1, h1, L1, le1, by simpa using lr1, E1, ?_, sb1⟩
      unfold Here; rw [hu]
      exact ⟨l, rfl, by rw [hD], by simpa using hll, fun i f x hf hx => hall i f x (by simpa using hf) hx⟩
    · cases ht
end
end Go.Am
