/- Words for memory that all proofs of this seat use: a slice value that reads as a list of cells, a block known whole, an append onto a row of the call's own. -/
import Derived.WalkKit
import Derived.WalkSpells
import Derived.WalkLawsBesides
import Derived.Maps.AppendAt
import Derived.Deep.AppendLies
import Derived.Deep.Draws
import Derived.Deep.QuietTactic
import Derived.BigQuiet
import Derived.Laws.Rows
import Derived.OwnWalk
import Derived.Lib.Hide
namespace Go.Proofs.YtmdcfnnoeimakaaGreatDoor
open Go.RowKit

theorem add_block (a : Addr) (n : Nat) : (a.add n).block = a.block := by unfold Addr.add; split <;> rfl
theorem add_add (a : Addr) (i j : Nat) : (a.add i).add j = a.add (i + j) := by
  unfold Addr.add
  by_cases hi : i = 0 <;> by_cases hj : j = 0 <;> simp [hi, hj, Nat.add_assoc]
theorem add_zero (a : Addr) : a.add 0 = a := rfl

theorem cell_lt {w : World} {a : Addr} {v : Value} (h : w.cell? a = some v) : a.block < w.heap.size := by
  rcases Nat.lt_or_ge a.block w.heap.size with hl | hg
  · exact hl
  · simp [World.cell?, Array.getElem?_eq_none hg] at h

/-- Whatever block. -/
def Any : Nat → Prop := fun _ => True

/-- The slice value '.slice A n _' reads as the cells cs, sz of them an element, in a block of S. -/
structure Sl (w : World) (S : Nat → Prop) (sz : Nat) (A : Option Addr) (n : Nat) (cs : List Value) : Prop where
  len : cs.length = n * sz
  cells : 0 < n → ∃ ad, A = some ad ∧ S ad.block ∧ ad.block < w.heap.size ∧ ∀ j u, cs[j]? = some u → w.cell? (ad.add j) = some u

section
variable {w w' : World} {S S' : Nat → Prop} {sz n : Nat} {A : Option Addr} {cs : List Value}
theorem Sl.keep (h : Sl w S sz A n cs) (hs : w.heap.size ≤ w'.heap.size) (hk : ∀ k, k < w.heap.size → S k → w'.heap[k]? = w.heap[k]?) : Sl w' S sz A n cs :=
  ⟨h.len, fun hn => by
    obtain ⟨ad, e, hS, hb, hc⟩ := h.cells hn
    exact ⟨ad, e, hS, Nat.lt_of_lt_of_le hb hs, fun j u hu => (World.cell?_of_block (by rw [add_block]; exact hk _ hb hS)).trans (hc j u hu)⟩⟩
theorem Sl.weaken (h : Sl w S sz A n cs) (hk : ∀ k, k < w.heap.size → S k → S' k) : Sl w S' sz A n cs :=
  ⟨h.len, fun hn => by
    obtain ⟨ad, e, hS, hb, hc⟩ := h.cells hn
    exact ⟨ad, e, hk _ hb hS, hb, hc⟩⟩
theorem Sl.any (h : Sl w S sz A n cs) : Sl w Any sz A n cs := h.weaken fun _ _ _ => trivial
theorem Sl.here (h : Sl w S sz A n cs) : Sl w (· < w.heap.size) sz A n cs := h.weaken fun _ hb _ => hb
theorem Sl.drew (h : Sl w S sz A n cs) : Sl w.drew S sz A n cs := h.keep (Nat.le_refl _) fun _ _ _ => rfl
theorem Sl.drewN (h : Sl w S sz A n cs) (k : Nat) : Sl (w.drewN k) S sz A n cs := h.keep (Nat.le_refl _) fun _ _ _ => rfl
theorem Sl.alloc (h : Sl w S sz A n cs) (o : Obj) : Sl (w.alloc o) S sz A n cs := h.keep (by simp) fun k hk _ => Below.heap_alloc w o k hk
theorem Sl.setCell (h : Sl w S sz A n cs) {p : Addr} (hp : ¬ S p.block) (u : Value) : Sl (w.setCell p u) S sz A n cs :=
  h.keep (by simp [World.setCell]) fun k _ hS => Below.heap_setCell w p u k (fun e => hp (e ▸ hS))
theorem Sl.below {B : Nat} (h : Sl w S sz A n cs) (hb : Below B w w') (hS : ∀ k, k < w.heap.size → S k → k < B) : Sl w' S sz A n cs :=
  h.keep hb.size fun k hk hs => hb.block k (hS k hk hs)
theorem Sl.below_all (h : Sl w S sz A n cs) (hb : Below w.heap.size w w') : Sl w' S sz A n cs := h.below hb fun _ hk _ => hk
theorem Sl.grown (h : Sl w S sz A n cs) {row : Option Nat} (hg : w.grownBy w' row) (hr : ∀ g, row = some g → ¬ S g) : Sl w' S sz A n cs :=
  h.keep hg.size fun k hk hS => hg.block k hk (fun e => hr k e.symm hS)
theorem Sl.nil_ : Sl w S sz A 0 [] := ⟨by simp, fun h => absurd h (by omega)⟩
theorem Sl.empty (h : Sl w S sz A 0 cs) : cs = [] := List.eq_nil_of_length_eq_zero (by simpa using h.len)
theorem Sl.of0 (hn : n = 0) (hc : cs = []) : Sl w S sz A n cs := by subst hn; subst hc; exact Sl.nil_
theorem Sl.at_ {k : Nat} (h : Sl w S 1 A n cs) (hk : k < n) : ∃ ad u, A = some ad ∧ ad.block < w.heap.size ∧ S ad.block ∧ cs[k]? = some u ∧ w.cell? (ad.add k) = some u := by
  obtain ⟨ad, e, hS, hb, hc⟩ := h.cells (by omega)
  have hl : k < cs.length := by have := h.len; omega
  exact ⟨ad, cs[k], e, hb, hS, List.getElem?_eq_getElem hl, hc k _ (List.getElem?_eq_getElem hl)⟩
theorem Sl.cut (h : Sl w S sz A n cs) {k cap : Nat} (hk : k ≤ n) (hc : n ≤ cap) :
    Sl w S sz (if cap = k then A else A.map (·.add (k * sz))) (n - k) (cs.drop (k * sz)) := by
  refine ⟨by rw [List.length_drop, h.len, Nat.sub_mul], fun hn => ?_⟩
  obtain ⟨ad, rfl, hS, hb, hcell⟩ := h.cells (by omega)
  rw [if_neg (by omega)]
  refine ⟨ad.add (k * sz), rfl, by rw [add_block]; exact hS, by rw [add_block]; exact hb, fun j u hu => ?_⟩
  rw [add_add]
  exact hcell _ u (by rw [← hu, List.getElem?_drop])
theorem Sl.take (h : Sl w S sz A n cs) {k : Nat} (hk : k ≤ n) : Sl w S sz A k (cs.take (k * sz)) := by
  refine ⟨by rw [List.length_take, h.len]; exact Nat.min_eq_left (Nat.mul_le_mul_right _ hk), fun hn => ?_⟩
  obtain ⟨ad, e, hS, hb, hcell⟩ := h.cells (by omega)
  exact ⟨ad, e, hS, hb, fun j u hu => hcell j u (by
    rw [List.getElem?_take] at hu
    split at hu
    · exact hu
    · cases hu)⟩
theorem Sl.of_own {base : Nat} {e : TypeId} {c : Nat} (h : w.ownsRow base e sz (.slice A n c) n cs) : Sl w (fun k => base ≤ k ∧ (Value.slice A n c).ownBlock = some k) sz A n cs := by
  refine ⟨h.1, fun hn => ?_⟩
  rcases h.2 with ⟨hv, h0⟩ | ⟨g, cap, cur, hv, hbg, hh, _⟩
  · injection hv with _ hv; omega
  · injection hv with hA hn' hc'
    subst hA
    refine ⟨_, rfl, ⟨hbg, rfl⟩, ?_, h.cells (g := g) rfl⟩
    rcases Nat.lt_or_ge g w.heap.size with hlt | hge
    · exact hlt
    · rw [Array.getElem?_eq_none hge] at hh; cases hh
end

/-- What an owned row's value looks like. -/
theorem own_form {w : World} {base e sz n : Nat} {v : Value} {cs : List Value} (h : w.ownsRow base e sz v n cs) :
    ∃ A c, v = .slice A n c ∧ n ≤ c ∧ c ≤ maxLen := by
  rcases h.2 with ⟨rfl, rfl⟩ | ⟨g, cap, cur, rfl, _, _, hnc, hcm, _⟩
  · exact ⟨none, 0, rfl, Nat.le_refl _, by decide⟩
  · exact ⟨some ⟨g, 0, none⟩, cap, rfl, hnc, hcm⟩

theorem own_base {w : World} {base base' e sz n : Nat} {v : Value} {cs : List Value} (h : w.ownsRow base e sz v n cs) (hb : ∀ k, v.ownBlock = some k → base' ≤ k) : w.ownsRow base' e sz v n cs := by
  refine ⟨h.1, ?_⟩
  rcases h.2 with h2 | ⟨g, cap, cur, hv, hbg, hh, r⟩
  · exact .inl h2
  · exact .inr ⟨g, cap, cur, hv, hb g (by rw [hv]; rfl), hh, r⟩
theorem own_mono {w : World} {base base' e sz n : Nat} {v : Value} {cs : List Value} (h : w.ownsRow base e sz v n cs) (hb : base' ≤ base) : w.ownsRow base' e sz v n cs :=
  own_base h fun k hk => Nat.le_trans hb (h.lt k hk).1
theorem own_below {w w' : World} {B base e sz n : Nat} {v : Value} {cs : List Value} (h : w.ownsRow base e sz v n cs) (hb : Below B w w') (hv : ∀ k, v.ownBlock = some k → k < B) : w'.ownsRow base e sz v n cs := by
  refine ⟨h.1, ?_⟩
  rcases h.2 with h2 | ⟨g, cap, cur, hv', hbg, hh, r⟩
  · exact .inl h2
  · exact .inr ⟨g, cap, cur, hv', hbg, (hb.block g (hv g (by rw [hv']; rfl))).trans hh, r⟩
theorem own_below_all {w w' : World} {base e sz n : Nat} {v : Value} {cs : List Value} (h : w.ownsRow base e sz v n cs) (hb : Below w.heap.size w w') : w'.ownsRow base e sz v n cs :=
  own_below h hb fun k hk => (h.lt k hk).2

/-- Block g is just the cells cs of element type t, none of them frozen. -/
def Bk (w : World) (g t : Nat) (cs : Array Value) : Prop := w.heap[g]? = some (.cells cs t (0, 0))
section
variable {w w' : World} {g t : Nat} {cs : Array Value}
theorem Bk.lt (h : Bk w g t cs) : g < w.heap.size := lt_of_block h
theorem Bk.cell (h : Bk w g t cs) (i : Nat) : w.cell? ⟨g, i, none⟩ = cs[i]? := by simp [World.cell?, show w.heap[g]? = _ from h]
theorem Bk.frozen (h : Bk w g t cs) (i : Nat) : w.frozen? ⟨g, i, none⟩ = false := by simp [World.frozen?, show w.heap[g]? = _ from h]
theorem Bk.new (w : World) (t : Nat) (cs : Array Value) : Bk (w.alloc (.cells cs t)) w.heap.size t cs := heap_alloc_new w _
theorem Bk.keep (h : Bk w g t cs) (hk : w'.heap[g]? = w.heap[g]?) : Bk w' g t cs := hk.trans h
theorem Bk.below {B : Nat} (h : Bk w g t cs) (hb : Below B w w') (hg : g < B) : Bk w' g t cs := (hb.block g hg).trans h
theorem Bk.below_all (h : Bk w g t cs) (hb : Below w.heap.size w w') : Bk w' g t cs := h.below hb h.lt
theorem Bk.alloc (h : Bk w g t cs) (o : Obj) : Bk (w.alloc o) g t cs := (Below.heap_alloc w o g h.lt).trans h
theorem Bk.set_ (h : Bk w g t cs) (i : Nat) (u : Value) : Bk (w.setCell ⟨g, i, none⟩ u) g t (cs.setIfInBounds i u) := by
  unfold Bk at h ⊢
  simp [World.setCell, Array.getElem?_modify, h]
theorem Bk.far (h : Bk w g t cs) {p : Addr} (hp : g ≠ p.block) (u : Value) : Bk (w.setCell p u) g t cs := (Below.heap_setCell w p u g hp).trans h
theorem Bk.grown {row : Option Nat} (h : Bk w g t cs) (hb : w.grownBy w' row) (hg : some g ≠ row) : Bk w' g t cs := (hb.block g h.lt hg).trans h
theorem Bk.ne {g' t' : Nat} {cs' : Array Value} (h : Bk w g t cs) (h' : Bk w g' t' cs') (hne : t ≠ t') : g ≠ g' := by
  rintro rfl
  unfold Bk at h h'
  rw [h] at h'
  injection h' with h'
  injection h' with _ ht
  exact hne ht
theorem own_ne {base e sz n : Nat} {v : Value} {xs : List Value} (h : w.ownsRow base e sz v n xs) (hg : Bk w g t cs) (hne : e ≠ t) : v.ownBlock ≠ some g := by
  rcases h.2 with ⟨rfl, _⟩ | ⟨g', cap, cur, rfl, _, hh, _⟩
  · simp [Value.ownBlock]
  · intro he
    have : g' = g := by simpa [Value.ownBlock] using he
    subst this
    exact Bk.ne (t := e) hh hg hne rfl
end

/-- w' is w, but for block g and what is new: what a method leaves that writes through its receiver. -/
theorem by_refl (w : World) (row : Option Nat) : w.grownBy w row := ⟨rfl, rfl, rfl, Nat.le_refl _, fun _ _ _ => rfl⟩
theorem by_trans {a b c : World} {row : Option Nat} (h : a.grownBy b row) (k : b.grownBy c row) : a.grownBy c row :=
  ⟨k.os.trans h.os, k.tape.trans h.tape, k.output.trans h.output, Nat.le_trans h.size k.size, fun i hi hne => (k.block i (Nat.lt_of_lt_of_le hi h.size) hne).trans (h.block i hi hne)⟩
theorem by_below {a w : World} (h : Below a.heap.size a w) (row : Option Nat) : a.grownBy w row := ⟨h.os, h.tape, h.output, h.size, fun i hi _ => h.block i hi⟩
theorem by_set {a w : World} {g : Nat} (h : a.grownBy w (some g)) {p : Addr} (hp : p.block = g ∨ a.heap.size ≤ p.block) (u : Value) : a.grownBy (w.setCell p u) (some g) :=
  ⟨h.os, h.tape, h.output, by simpa [World.setCell] using h.size, fun i hi hne => (Below.heap_setCell w p u i (by
    rintro rfl
    rcases hp with hp | hp
    · exact hne (by rw [hp])
    · omega)).trans (h.block i hi hne)⟩
theorem by_alloc {a w : World} {row : Option Nat} (h : a.grownBy w row) (o : Obj) : a.grownBy (w.alloc o) row :=
  ⟨h.os, h.tape, h.output, Nat.le_trans h.size (by simp), fun i hi hne => (Below.heap_alloc w o i (Nat.lt_of_lt_of_le hi h.size)).trans (h.block i hi hne)⟩
theorem by_drewN {a w : World} {row : Option Nat} (h : a.grownBy w row) (n : Nat) : a.grownBy (w.drewN n) row := ⟨h.os, h.tape, h.output, h.size, h.block⟩
theorem below_of_by {w w' : World} {B : Nat} {row : Option Nat} (h : w.grownBy w' row) (hB : B ≤ w.heap.size) (hr : ∀ k, row = some k → B ≤ k) : Below B w w' :=
  (Below.refl B w).grown h hB hr
theorem below_drewN {B : Nat} {a w : World} (h : Below B a w) (n : Nat) : Below B a (w.drewN n) := ⟨h.os, h.tape, h.output, h.size, h.block⟩

theorem by_step {a b c : World} {row row' : Option Nat} (h : a.grownBy b row) (k : b.grownBy c row') (hr : row' = row ∨ ∀ g, row' = some g → a.heap.size ≤ g) : a.grownBy c row :=
  ⟨k.os.trans h.os, k.tape.trans h.tape, k.output.trans h.output, Nat.le_trans h.size k.size, fun i hi hne => (k.block i (Nat.lt_of_lt_of_le hi h.size) (by
    rcases hr with rfl | hr
    · exact hne
    · intro e
      have := hr i e.symm
      omega)).trans (h.block i hi hne)⟩
theorem row_step {a b : World} {r0 r1 r2 : Option Nat} (h : r1 = r0 ∨ ∀ k, r1 = some k → a.heap.size ≤ k) (hs : a.heap.size ≤ b.heap.size) (k : r2 = r1 ∨ r2 = some b.heap.size) :
    r2 = r0 ∨ ∀ k, r2 = some k → a.heap.size ≤ k := by
  rcases k with rfl | rfl
  · exact h
  · exact .inr fun k e => by injection e with e; omega

theorem Sl.lit (w : World) (t : TypeId) (cs : Array Value) : Sl (w.alloc (.cells cs t)) Any 1 (some ⟨w.heap.size, 0, none⟩) cs.size cs.toList :=
  ⟨by simp, fun _ => ⟨_, rfl, trivial, by simp, fun j u hu => by
    have hb := Bk.cell (Bk.new w t cs) j
    have e : (Addr.mk w.heap.size 0 none).add j = ⟨w.heap.size, j, none⟩ := by
      unfold Addr.add
      split
      · rename_i h; subst h; rfl
      · simp
    rw [e, hb]
    simpa using hu⟩⟩

theorem seq {a b c : World} (h : Below a.heap.size a b) (k : Below b.heap.size b c) : Below a.heap.size a c := h.trans (k.mono h.size)
theorem seqg {a b c : World} {g : Nat} (h : Below a.heap.size a b) (k : b.grownBy c (some g)) (hg : a.heap.size ≤ g) : Below a.heap.size a c :=
  h.grown k h.size fun x hx => by injection hx with hx; omega

/-- The second of two new blocks, behind a call that wrote through block g alone. -/
theorem blk2 {w w1 : World} {o : Obj} {cs : Array Value} {t : TypeId} {g : Nat} (hg : ((w.alloc o).alloc (.cells cs t)).grownBy w1 (some g)) (hl : g < w.heap.size) : Bk w1 (w.heap.size + 1) t cs := by
  have h := Bk.new (w.alloc o) t cs
  have e : (w.alloc o).heap.size = w.heap.size + 1 := by simp
  rw [e] at h
  exact h.grown hg (by intro e; injection e; omega)

/-- append(s, x...), s a row of the call's own, x a slice that reads (nil, empty or not). -/
theorem run_app {P : Program} (w : World) (base : Nat) (t ty e : TypeId) (i : TypeInfo) (z : Value) (sz bytes : Nat) (ht : P.underlying t = some (.slice e)) (hi : P.info? e = some i) (hz : i.zero = some z)
    (hsize : i.size = sz) (hby : i.bytes = bytes) (hzs : z.cells.size = sz) (hsz : 0 < sz)
    (v : Value) (n : Nat) (xs : List Value) (hown : w.ownsRow base e sz v n xs)
    (S : Nat → Prop) (A : Option Addr) (m c : Nat) (news : List Value) (hr : Sl w S sz A m news) (h1 : ∀ u ∈ news, u.oneCell' = true)
    (h63 : n + m ≤ maxLen) (hbytes : (n + m) * bytes ≤ 140737488355328) (hbase : base ≤ w.heap.size) :
    ∃ v' w', (Builtin.append_ #[t, t] ty #[v, .slice A m c]).run P w = .ok v' w' ∧ w'.ownsRow base e sz v' (n + m) (xs ++ news) ∧ w.grownBy w' v.ownBlock ∧
      (v'.ownBlock = v.ownBlock ∨ v'.ownBlock = some w.heap.size) := by
  by_cases hm : m = 0
  · subst hm
    have hnews : news = [] := hr.empty
    subst hnews
    rcases A with _ | ad
    · refine ⟨v, w, ?_, by simpa using hown, by_refl _ _, .inl rfl⟩
      rcases hown.2 with ⟨rfl, rfl⟩ | ⟨g, cap, cur, rfl, _, _, hnc, _⟩
      · simp [Builtin.append_, run_underlying ht, sizeOf, typeInfo, hi, Builtin.lenOf, Builtin.firstCells]
      · simp [Builtin.append_, run_underlying ht, sizeOf, typeInfo, hi, Builtin.lenOf, Builtin.firstCells, hnc, storeCells]
    · obtain ⟨v', w', a, b, c', _, d⟩ := run_append_own_at (P := P) w base t ty e i z sz bytes ht hi hz hsize hby hzs hsz v n xs hown ad 0 c [] (by simp) (by simp) (by simp) h63 hbytes hbase
      exact ⟨v', w', a, b, c', d⟩
  · obtain ⟨ad, rfl, _, _, hc⟩ := hr.cells (by omega)
    obtain ⟨v', w', a, b, c', _, d⟩ := run_append_own_at (P := P) w base t ty e i z sz bytes ht hi hz hsize hby hzs hsz v n xs hown ad m c news hr.len hc h1 h63 hbytes hbase
    exact ⟨v', w', a, b, c', d⟩

theorem wpList_app {P : Program} (w : World) {ops : Array Oper} {rest : List Oper} {o : Oper} {a : Act} {Q : Exit → Act → World → Prop} (hgd : o.guard = none) (s x : Operand) (t : TypeId)
    (ho : o.op = .call { callee := .builtin .append, args := #[s, x], argTypes := #[t, t] })
    (base : Nat) (e : TypeId) (z : Value) (sz bytes : Nat) (ht : P.underlying t = some (.slice e)) (hinfo : (P.info? e).map (fun i => (i.zero, i.size, i.bytes)) = some (some z, sz, bytes))
    (hzs : z.cells.size = sz) (hsz : 0 < sz)
    (v : Value) (n : Nat) (xs : List Value) (hs : a.eval s = v) (hown : w.ownsRow base e sz v n xs)
    (S : Nat → Prop) (A : Option Addr) (m c : Nat) (news : List Value) (hx : a.eval x = .slice A m c) (hr : Sl w S sz A m news) (h1 : ∀ u ∈ news, u.oneCell' = true)
    (h63 : n + m ≤ maxLen) (hbytes : (n + m) * bytes ≤ 140737488355328) (hbase : base ≤ w.heap.size)
    (h : ∀ v' w', w'.ownsRow base e sz v' (n + m) (xs ++ news) → w.grownBy w' v.ownBlock → (v'.ownBlock = v.ownBlock ∨ v'.ownBlock = some w.heap.size) → wpList P ops Q rest (a.put o.dst v') w') : wpList P ops Q (o :: rest) a w := by
  obtain ⟨i, hi, hz, hsize, hby⟩ := info_parts hinfo
  refine wpList_plain hgd fun K hK => ?_
  obtain ⟨v', w', hrun, h2, h3, h4⟩ := run_app (P := P) w base t o.type e i z sz bytes ht hi hz hsize hby hzs hsz v n xs hown S A m c news hr h1 h63 hbytes hbase
  unfold Oper.wp execOp
  simp only [ho, resolve, invoke, builtin, Sem.run_bind, Sem.run_pure, Result.andThen_ok, List.map_toArray, List.map_cons, List.map_nil, hs, hx, hrun]
  exact hK _ _ (h v' w' h2 h3 h4)

/-- A byte's cell. -/
def byteV (b : UInt8) : Value := .int .u8 (b.toNat : Int)
theorem byteV_one (bs : List UInt8) : ∀ u ∈ bs.map byteV, u.oneCell' = true := by
  intro u hu
  obtain ⟨b, _, rfl⟩ := List.mem_map.1 hu
  rfl
/-- The slice reads as the bytes bs. -/
def SlB (w : World) (S : Nat → Prop) (A : Option Addr) (n : Nat) (bs : List UInt8) : Prop := Sl w S 1 A n (bs.map byteV)
theorem SlB.len {w : World} {S : Nat → Prop} {A : Option Addr} {n : Nat} {bs : List UInt8} (h : SlB w S A n bs) : bs.length = n := by have := Sl.len h; simpa using this
theorem SlB.at_ {w : World} {S : Nat → Prop} {A : Option Addr} {n k : Nat} {bs : List UInt8} (h : SlB w S A n bs) (hk : k < n) :
    ∃ ad, A = some ad ∧ ad.block < w.heap.size ∧ w.cell? (ad.add k) = some (.int .u8 ((bs[k]'(by rw [h.len]; exact hk)).toNat : Int)) := by
  obtain ⟨ad, u, e, hb, _, hu, hc⟩ := Sl.at_ h hk
  refine ⟨ad, e, hb, hc.trans ?_⟩
  rw [List.getElem?_map, List.getElem?_eq_getElem (by rw [h.len]; exact hk)] at hu
  simpa [byteV] using hu.symm
theorem SlB.rest {w : World} {S : Nat → Prop} {A : Option Addr} {n k c : Nat} {bs : List UInt8} (h : SlB w S A n bs) (hk : k ≤ n) (hc : n ≤ c) :
    SlB w S (if c = k then A else Option.map (fun x => x.add k) A) (n - k) (bs.drop k) := by
  have := Sl.cut h hk hc
  unfold SlB
  rw [List.map_drop]
  simpa using this
theorem SlB.win {w : World} {S : Nat → Prop} {A : Option Addr} {n k m c : Nat} {bs : List UInt8} (h : SlB w S A n bs) (hk : k + m ≤ n) (hc : n ≤ c) :
    SlB w S (if c = k then A else Option.map (fun x => x.add k) A) (k + m - k) ((bs.drop k).take m) := by
  have := Sl.take (h.rest (k := k) (by omega) hc) (k := k + m - k) (by omega)
  unfold SlB
  rw [List.map_take]
  rw [Nat.mul_one] at this
  have e : k + m - k = m := by omega
  rw [e] at this ⊢
  exact this
theorem SlB.head {w : World} {S : Nat → Prop} {A : Option Addr} {n m : Nat} {bs : List UInt8} (h : SlB w S A n bs) (hk : m ≤ n) : SlB w S A m (bs.take m) := by
  have := Sl.take h hk
  unfold SlB
  rw [List.map_take]
  simpa using this
theorem SlB.alloc {w : World} {S : Nat → Prop} {A : Option Addr} {n : Nat} {bs : List UInt8} (h : SlB w S A n bs) (o : Obj) : SlB (w.alloc o) S A n bs := Sl.alloc h o
theorem SlB.below_all {w w' : World} {S : Nat → Prop} {A : Option Addr} {n : Nat} {bs : List UInt8} (h : SlB w S A n bs) (hb : Below w.heap.size w w') : SlB w' S A n bs := Sl.below_all h hb
theorem SlB.nil_ {w : World} {S : Nat → Prop} {A : Option Addr} : SlB w S A 0 [] := Sl.nil_
/-- The value owns the bytes bs. -/
def OwB (w : World) (base : Nat) (v : Value) (bs : List UInt8) : Prop := w.ownsRow base 5 1 v bs.length (bs.map byteV)
theorem OwB.alloc {w : World} {base : Nat} {v : Value} {bs : List UInt8} (h : OwB w base v bs) (o : Obj) : OwB (w.alloc o) base v bs := World.ownsRow.alloc h o
/-- It answers a slice of its own, which holds the bytes bs; nothing that was there has turned. -/
def RetB (w : World) (bs : List UInt8) (e : Ending) (w' : World) : Prop := ∃ v, e = .returned v ∧ OwB w' w.heap.size v bs ∧ Below w.heap.size w w'
theorem wrap_u64 {x : Int} (h0 : 0 ≤ x) (h : x < 18446744073709551616) : IntKind.u64.wrap x = x := by simp only [IntKind.wrap]; exact Int.emod_eq_of_lt h0 h
theorem ret_int {k : IntKind} {a b : Int} (h : a = b) : Ending.returned (.int k a) = .returned (.int k b) := by rw [h]
theorem ret_bool {a b : Bool} (h : a = b) : Ending.returned (.bool a) = .returned (.bool b) := by rw [h]
theorem ret_tup2 {k k' : IntKind} {a b a' b' : Int} (h : a = a') (h' : b = b') : Ending.returned (.tuple #[.int k a, .int k' b]) = .returned (.tuple #[.int k a', .int k' b']) := by rw [h, h']
theorem ret_bi {k : IntKind} {a a' : Bool} {b b' : Int} (h : a = a') (h' : b = b') : Ending.returned (.tuple #[.bool a, .int k b]) = .returned (.tuple #[.bool a', .int k b']) := by rw [h, h']
theorem ret_si {k : IntKind} {a a' : List UInt8} {b b' : Int} (h : a = a') (h' : b = b') : Ending.returned (.tuple #[.string ⟨a.toArray⟩, .int k b]) = .returned (.tuple #[.string ⟨a'.toArray⟩, .int k b']) := by rw [h, h']
theorem ret_str {a a' : List UInt8} (h : a = a') : Ending.returned (.string ⟨a.toArray⟩) = .returned (.string ⟨a'.toArray⟩) := by rw [h]
theorem vint {k : IntKind} {a b : Int} (h : a = b) : Value.int k a = .int k b := by rw [h]

end Go.Proofs.YtmdcfnnoeimakaaGreatDoor
