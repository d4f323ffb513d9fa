/- Whatever is handed in, of texts, numbers, bools, lists and structs, however deep: as rows of the machine. -/
import Derived.Test.YtmdcfnnoeimakaaGreatDoorOpen
import Derived.Test.YtmdcfnnoeimakaaGreatDoorAmR
import Derived.Deep.Slices
import Derived.ChangeArms
namespace Go.Am
open Go.ChangeShapes Go.WideShapes Go.ChangeAt Go.RowKit
set_option linter.unusedVariables false
/-- Fields that stand one behind the other. -/
def tile (P : Program) : Nat → List Field → Nat → Bool
  | k, [], m => Nat.beq k m
  | k, f :: r, m => Nat.beq f.offset k && tile P (k + P.cellsOf f.type) r m
/-- Types of which that is so. -/
def tyOk (P : Program) : Nat → TypeId → Bool
  | 0, _ => false
  | n + 1, t => match P.underlying t with
    | some .bool => true
    | some (.int _) => true
    | some .string => true
    | some (.slice e) => tyOk P n e && Nat.blt 0 (P.cellsOf e)
    | some (.struct fs) => fs.toList.all (fun f => tyOk P n f.type) && tile P 0 fs.toList (P.cellsOf t)
    | _ => false
/-- What stands in these cells, as the data that it is. -/
def Here (P : Program) {H : Type} (L : RL) : Nat → TypeId → List Value → DataW H → Prop
  | 0, _, _, _ => False
  | n + 1, t, cs, d => match P.underlying t with
    | some .bool => ∃ b, cs = [.bool b] ∧ d = .lit (.bool b)
    | some (.int k) => ∃ m, cs = [.int k m] ∧ d = .lit (.int k m) ∧ (Lit.int k m).wf = true
    | some .string => ∃ s : ByteArray, cs = [.string s] ∧ d = .lit (.string s.data.toList)
    | some (.slice e) => ∃ (v : Value) (l : List (List Value × DataW H)) (sp : List (DataW H)), cs = [v] ∧ RO (P.cellsOf e) L v l.length (l.flatMap Prod.fst) ∧ (d = .slice (l.map Prod.snd) sp ∨ (d = .nil ∧ l = [])) ∧ ∀ x, x ∈ l → x.1.length = P.cellsOf e ∧ Here P L n e x.1 x.2
    | some (.struct fs) => ∃ l : List (List Value × DataW H), cs = l.flatMap Prod.fst ∧ d = .agg (l.map Prod.snd) ∧ l.length = fs.size ∧ ∀ (i : Nat) (f : Field) (x : List Value × DataW H), fs[i]? = some f → l[i]? = some x → Here P L n f.type x.1 x.2
    | _ => False
section
variable {H : Type} {enc : TypeId × Value → H} {P : Program} {w : World}
theorem Here.mono {L L' : RL} (hm : ∀ p, p ∈ L → p ∈ L') : ∀ (n : Nat) {t : TypeId} {cs : List Value} {d : DataW H}, Here P L n t cs d → Here P L' n t cs d
  | 0, _, _, _, h => h
  | n + 1, t, cs, d, h => by
    unfold Here at h ⊢
    split at h
    · exact h
    · exact h
    · exact h
    · obtain ⟨v, l, sp, h1, h2, h3, h4⟩ := h
      exact ⟨v, l, sp, h1, h2.mono hm, h3, fun x hx => ⟨(h4 x hx).1, Here.mono hm n (h4 x hx).2⟩⟩
    · obtain ⟨l, h1, h2, h3, h4⟩ := h
      exact ⟨l, h1, h2, h3, fun i f x hf hx => Here.mono hm n (h4 i f x hf hx)⟩
    · exact h
structure Ent (P : Program) (w : World) (ρ : Env) (h : AW) (L : RL) : Prop where
  rel : HRel P ρ h w
  ro : ∀ r row, h.get r = some row → row.own = false
  has : Has h L
theorem enterR {ρ : Env} {h : AW} {L : RL} (E : Ent P w ρ h L) (l : Loc) (cs : List Value) (hb : l.block < w.heap.size)
    (hc : ∀ i v, cs[i]? = some v → ∃ u, w.cell? ⟨l.block, l.base + i, none⟩ = some u ∧ VRel ρ v u) :
    ∃ r ρ' h', ρ.le ρ' ∧ ρ' r = some l ∧ Ent P w ρ' h' ((r, .ro cs) :: L) := by
  obtain ⟨HR, ro, H⟩ := E
  obtain ⟨h', e⟩ := h.new_some (.ro cs)
  obtain ⟨_, hg, hn, hs⟩ := new_eq e
  have hnone : ρ h.next = none := HR.fresh0
  have le := upd_le (l := l) hnone
  have ro' : ∀ r row, h'.get r = some row → row.own = false := fun r row hr => by
    rw [hg] at hr
    split at hr
    · simp at hr; subst hr; rfl
    · exact ro r row hr
  refine ⟨h.next, upd ρ h.next l, h', le, by simp [upd], ⟨fun r row hr => ?_, fun r r' row row' l₁ l₂ h1 h2 _ _ _ ho => ?_, fresh_upd HR rfl hn hs, by rw [hs]; exact HR.step⟩, ro', H.new e⟩
  · rw [hg] at hr
    split at hr
    · simp at hr; subst hr; subst_vars
      exact ⟨l, by simp [upd], hb, fun i v hv => let ⟨u, a, b⟩ := hc i v hv; ⟨u, a, b.mono le⟩⟩
    · obtain ⟨l', hl', hr'⟩ := HR.loc r row hr
      exact ⟨l', le _ _ hl', hr'.keep le rfl⟩
  · rw [ro' r row h1, ro' r' row' h2] at ho; simp at ho
theorem cell_there {w : World} {a : Addr} {v : Value} (h : w.cell? a = some v) : a.spot = none ∧ a.block < w.heap.size := by
  unfold World.cell? at h
  split at h
  · rename_i hb
    split at h
    · cases h
    · rename_i hs
      refine ⟨by simpa using hs, (Array.getElem?_eq_some_iff.1 hb).1⟩
  · cases h
theorem flat_len {A : Type} {sz : Nat} : ∀ (l : List (List Value × A)), (∀ x, x ∈ l → x.1.length = sz) → (l.flatMap Prod.fst).length = l.length * sz
  | [], _ => by simp
  | x :: r, h => by
    rw [List.flatMap_cons, List.length_append, flat_len r fun y hy => h y (List.mem_cons_of_mem _ hy), h x (List.mem_cons_self ..), List.length_cons, Nat.add_mul]; omega
theorem flat_at {A : Type} {sz : Nat} (hsz : 0 < sz) : ∀ (l : List (List Value × A)), (∀ x, x ∈ l → x.1.length = sz) → ∀ (i : Nat) (v : Value), (l.flatMap Prod.fst)[i]? = some v → ∃ x, l[i / sz]? = some x ∧ x.1[i % sz]? = some v
  | [], _, i, v, h => by simp at h
  | x :: r, hl, i, v, h => by
    have hx := hl x (List.mem_cons_self ..)
    rw [List.flatMap_cons] at h
    by_cases hi : i < sz
    · rw [List.getElem?_append_left (by omega)] at h
      exact ⟨x, by rw [Nat.div_eq_of_lt hi]; rfl, by rw [Nat.mod_eq_of_lt hi]; exact h⟩
    · rw [List.getElem?_append_right (by omega), hx] at h
      obtain ⟨y, h1, h2⟩ := flat_at hsz r (fun y hy => hl y (List.mem_cons_of_mem _ hy)) (i - sz) v h
      refine ⟨y, ?_, ?_⟩
      · rw [Nat.div_eq_sub_div hsz (by omega), List.getElem?_cons_succ]; exact h1
      · rw [Nat.mod_eq_sub_mod (by omega)]; exact h2
abbrev Enters (enc : TypeId × Value → H) (P : Program) (w : World) (n : Nat) : Prop := ∀ (fuel : Nat) (t : TypeId) (cs : List Value) (x : DataW H × List MemPlace) (ρ : Env) (h : AW) (L : RL), tyOk P n t = true → DataW.trod enc P w 0 (fun _ => true) true fuel t cs = some x → Ent P w ρ h L →
  ∃ (us : List Value) (ρ' : Env) (h' : AW) (L' : RL), ρ.le ρ' ∧ LRel ρ' us cs ∧ Ent P w ρ' h' L' ∧ Here P L' n t us x.1 ∧ ∀ p, p ∈ L → p ∈ L'
theorem enter_fields {n : Nat} (ih : Enters enc P w n) (fuel : Nat) {cs : List Value} : ∀ (fs : List Field) (k : Nat) (xs : List (DataW H × List MemPlace)) {ρ : Env} {h : AW} {L : RL}, (fs.all fun f => tyOk P n f.type) = true → tile P k fs cs.length = true → xs.length = fs.length →
    (∀ (i : Nat) (f : Field), fs[i]? = some f → DataW.trod enc P w 0 (fun _ => true) true fuel f.type ((cs.drop f.offset).take (P.cellsOf f.type)) = xs[i]?) → Ent P w ρ h L →
    ∃ (l : List (List Value × DataW H)) (ρ' : Env) (h' : AW) (L' : RL), ρ.le ρ' ∧ LRel ρ' (l.flatMap Prod.fst) (cs.drop k) ∧ Ent P w ρ' h' L' ∧ l.map Prod.snd = xs.map Prod.fst ∧ l.length = fs.length ∧
      (∀ (i : Nat) (f : Field) (x : List Value × DataW H), fs[i]? = some f → l[i]? = some x → Here P L' n f.type x.1 x.2) ∧ ∀ p, p ∈ L → p ∈ L'
  | [], k, xs, ρ, h, L, _, ht, hl, _, E => by
    have hk : k = cs.length := by simpa [tile] using ht
    have hx : xs = [] := List.eq_nil_of_length_eq_zero (by simpa using hl)
    subst hx
    exact ⟨[], ρ, h, L, Env.le_refl _, by rw [hk]; simp; exact .nil, E, rfl, rfl, fun i f x hf => by simp at hf, fun _ hp => hp⟩
  | f :: r, k, xs, ρ, h, L, ha, ht, hl, hg, E => by
    cases xs with
    | nil => simp at hl
    | cons x xs =>
      simp only [List.all_cons, Bool.and_eq_true] at ha
      simp only [tile, Bool.and_eq_true, Nat.beq_eq] at ht
      have h0 := hg 0 f rfl
      rw [ht.1] at h0
      obtain ⟨us, ρ1, h1, L1, le1, lr1, E1, he1, sb1⟩ := ih fuel f.type _ x ρ h L ha.1 h0 E
      obtain ⟨l, ρ2, h2, L2, le2, lr2, E2, hm, hlen, hall, sb2⟩ := enter_fields ih fuel r (k + P.cellsOf f.type) xs ha.2 ht.2 (by simpa using hl) (fun i g hi => by have := hg (i + 1) g (by simpa using hi); simpa using this) E1
      refine ⟨(us, x.1) :: l, ρ2, h2, L2, fun a b c => le2 a b (le1 a b c), ?_, E2, by simp [hm], by simp [hlen], fun i g y hi hy => ?_, fun p hp => sb2 p (sb1 p hp)⟩
      · rw [List.flatMap_cons, ← List.take_append_drop (P.cellsOf f.type) (cs.drop k), List.drop_drop]
        exact (lr1.mono le2).append lr2
      · cases i with
        | zero => simp at hi hy; subst hi; subst hy; exact he1.mono sb2
        | succ i => simp at hi hy; exact hall i g y hi hy
theorem enter_elems {n : Nat} (ih : Enters enc P w n) (fuel : Nat) {e : TypeId} {a : Addr} {D : Nat → DataW H} {Pl : Nat → List MemPlace} (he : tyOk P n e = true) {ρ : Env} {h : AW} {L : RL} (E : Ent P w ρ h L) : ∀ (k : Nat), (∀ i, i < k → ∃ cs', w.cells? 0 (a.add (i * P.cellsOf e)) (P.cellsOf e) = some cs' ∧ DataW.trod enc P w 0 (fun _ => true) true fuel e cs' = some (D i, Pl i)) →
    ∃ (l : List (List Value × DataW H)) (ρ' : Env) (h' : AW) (L' : RL), ρ.le ρ' ∧ Ent P w ρ' h' L' ∧ l.length = k ∧ l.map Prod.snd = (List.range k).map D ∧
      (∀ (i : Nat) (x : List Value × DataW H), l[i]? = some x → Here P L' n e x.1 x.2 ∧ x.1.length = P.cellsOf e ∧ ∀ (j : Nat) (v : Value), x.1[j]? = some v → ∃ u, w.cell? (a.add (i * P.cellsOf e + j)) = some u ∧ VRel ρ' v u) ∧ ∀ p, p ∈ L → p ∈ L'
  | 0, _ => ⟨[], ρ, h, L, Env.le_refl _, E, rfl, rfl, fun i x hx => by simp at hx, fun _ hp => hp⟩
  | k + 1, hi => by
    obtain ⟨l, ρ1, h1, L1, le1, E1, hl, hD, hall, sb1⟩ := enter_elems ih fuel he E k fun i hk => hi i (by omega)
    obtain ⟨cs', hc, ht⟩ := hi k (by omega)
    obtain ⟨us, ρ2, h2, L2, le2, lr2, E2, he2, sb2⟩ := ih fuel e cs' _ ρ1 h1 L1 he ht E1
    obtain ⟨_, hcl, hat⟩ := World.cells?_some hc
    refine ⟨l ++ [(us, D k)], ρ2, h2, L2, fun a b c => le2 a b (le1 a b c), E2, by simp [hl], by simp [hD, List.range_succ], fun i x hx => ?_, fun p hp => sb2 p (sb1 p hp)⟩
    by_cases hik : i < k
    · rw [List.getElem?_append_left (by omega)] at hx
      obtain ⟨q1, q2, q3⟩ := hall i x hx
      exact ⟨q1.mono sb2, q2, fun j v hv => by obtain ⟨u, q4, q5⟩ := q3 j v hv; exact ⟨u, q4, q5.mono le2⟩⟩
    · have hik' : i = k := by
        have := (List.getElem?_eq_some_iff.1 hx).1
        simp at this; omega
      subst hik'
      rw [List.getElem?_append_right (by omega), hl, Nat.sub_self] at hx
      simp at hx; subst hx
      refine ⟨he2, by rw [lr2.length, hcl], fun j v hv => ?_⟩
      obtain ⟨u, hu, hvu⟩ := lr2.get hv
      have hj : j < cs'.length := (List.getElem?_eq_some_iff.1 hu).1
      refine ⟨u, ?_, hvu⟩
      rw [← Addr.add_add, hat j (by omega), hu]
theorem enter_any (blk : Nat) (hblk : blk < w.heap.size) : ∀ n, Enters enc P w n
  | 0 => fun fuel t cs x ρ h L ht => by simp [tyOk] at ht
  | n + 1 => fun fuel t cs x ρ h L ht hx E => by
    have ih := enter_any blk hblk n
    unfold tyOk at ht
    split at ht
    · rename_i hu
      obtain ⟨b, rfl, rfl⟩ := DataW.trod_bool hu hx
      refine ⟨_, ρ, h, L, Env.le_refl _, .cons (.bool b) .nil, E, ?_, fun _ hp => hp⟩
      unfold Here; rw [hu]; exact ⟨b, rfl, rfl⟩
    · rename_i k hu
      obtain ⟨m, rfl, rfl, hwf⟩ := DataW.trod_int hu hx
      refine ⟨_, ρ, h, L, Env.le_refl _, .cons (.int k m) .nil, E, ?_, fun _ hp => hp⟩
      unfold Here; rw [hu]; exact ⟨m, rfl, rfl, hwf⟩
    · rename_i hu
      obtain ⟨s, rfl, rfl, hs⟩ := DataW.trod_string hu hx
      refine ⟨_, ρ, h, L, Env.le_refl _, .cons (.string s) .nil, E, ?_, fun _ hp => hp⟩
      unfold Here; rw [hu]; exact ⟨s, rfl, rfl⟩
    · rename_i e hu
      simp only [Bool.and_eq_true] at ht
      have hsz : 0 < P.cellsOf e := by simpa [Nat.blt_eq] using ht.2
      rcases Go.Deep.open_slice hu hx with ⟨rfl, rfl⟩ | ⟨a, len, cap, m, q, D, Pl, rfl, hb, hl, hm, hmm, rfl, hi⟩
      · refine ⟨_, ρ, h, L, Env.le_refl _, .cons .sliceNil .nil, E, ?_, fun _ hp => hp⟩
        unfold Here; rw [hu]; exact ⟨_, [], [], rfl, .inl ⟨rfl, rfl, rfl⟩, .inr ⟨rfl, rfl⟩, fun x hx => by cases hx⟩
      · have hmc : m = cap := by simpa using hmm
        subst hmc
        by_cases hc0 : m = 0
        · subst hc0
          have hl0 : len = 0 := by omega
          subst hl0
          obtain ⟨r, ρ1, h1, le1, hr, E1⟩ := enterR E ⟨blk, 0, 0, 0⟩ [] hblk (fun i v hv => by simp at hv)
          refine ⟨[.slice (some ⟨r, 0, none⟩) 0 0], ρ1, h1, _, le1, .cons (.slice (Nat.le_refl _) (fun _ => rfl) (fun h => absurd rfl h)) .nil, E1, ?_, fun p hp => List.mem_cons_of_mem _ hp⟩
          unfold Here; rw [hu]
          exact ⟨_, [], (List.range (0 - 0)).map fun j => D (0 + j), rfl, .inr ⟨r, 0, rfl, Nat.le_refl _, by unfold openCap; omega, List.mem_cons_self .., by simp⟩, .inl rfl, fun x hx => by cases hx⟩
        · obtain ⟨l, ρ1, h1, L1, le1, E1, hll, hD, hall, sb1⟩ := enter_elems ih q ht.1 E len fun i hk => hi i (by omega)
          obtain ⟨cs0, hc0', _⟩ := hi 0 (by omega)
          obtain ⟨_, hcl, hat⟩ := World.cells?_some hc0'
          have hhere : a.spot = none ∧ a.block < w.heap.size := by
            have := hat 0 hsz
            rw [Addr.add_add] at this
            cases hv : cs0[0]? with
            | none => rw [List.getElem?_eq_none_iff] at hv; omega
            | some v => rw [hv, Nat.zero_mul, Nat.zero_add] at this; exact cell_there (a := a) this
          obtain ⟨bl, off, spot⟩ := a
          obtain ⟨hsp, hblk'⟩ := hhere
          simp only at hsp hblk'
          subst hsp
          have hlen : ∀ x, x ∈ l → x.1.length = P.cellsOf e := fun x hx => by obtain ⟨i, hi⟩ := List.getElem?_of_mem hx; exact (hall i x hi).2.1
          obtain ⟨r, ρ2, h2, le2, hr, E2⟩ := enterR E1 ⟨bl, off, 0, 0⟩ (l.flatMap Prod.fst) hblk' (fun i v hv => by
            obtain ⟨x, q1, q2⟩ := flat_at hsz l hlen i v hv
            obtain ⟨u, q3, q4⟩ := (hall _ x q1).2.2 _ v q2
            rw [Nat.mul_comm, Nat.div_add_mod, add_eq] at q3
            exact ⟨u, q3, q4⟩)
          refine ⟨[.slice (some ⟨r, 0, none⟩) len m], ρ2, h2, _, fun a b c => le2 a b (le1 a b c), .cons (.slice hl (fun _ => rfl) fun _ => ⟨_, hr, rfl, fun hh => ?_⟩) .nil, E2, ?_, fun p hp => List.mem_cons_of_mem _ (sb1 p hp)⟩
          · exfalso; unfold maxLen at hm; unfold openCap at hh; omega
          · unfold Here; rw [hu]
            refine ⟨_, l, (List.range (m - len)).map fun j => D (len + j), rfl, .inr ⟨r, m, by rw [hll], by omega, by unfold maxLen at hm; unfold openCap; omega, List.mem_cons_self .., flat_len l hlen⟩, .inl (by rw [hD]), fun x hx => ⟨hlen x hx, ?_⟩⟩
            obtain ⟨i, hi⟩ := List.getElem?_of_mem hx
            exact ((hall i x hi).1).mono fun p hp => List.mem_cons_of_mem _ hp
    · rename_i fs hu
      simp only [Bool.and_eq_true] at ht
      obtain ⟨xs, m, rfl, rfl, hlen, hxl, hg⟩ := DataW.trod_struct hu hx
      obtain ⟨l, ρ1, h1, L1, le1, lr1, E1, hD, hll, hall, sb1⟩ := enter_fields ih m fs.toList 0 xs ht.1 (by rw [hlen]; exact ht.2) (by simpa using hxl) (fun i f hf => hg i f (by simpa using hf)) E
      refine ⟨_, ρ1, h1, L1, le1, by simpa using lr1, E1, ?_, sb1⟩
      unfold Here; rw [hu]
      exact ⟨l, rfl, by rw [hD], by simpa using hll, fun i f x hf hx => hall i f x (by simpa using hf) hx⟩
    · cases ht
end
end Go.Am
