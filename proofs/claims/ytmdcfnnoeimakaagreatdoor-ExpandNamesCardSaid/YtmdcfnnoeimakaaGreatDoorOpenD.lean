/- What is handed in, read: texts, numbers, lists of texts, structs. -/
import Derived.Test.YtmdcfnnoeimakaaGreatDoorOpenW
import Derived.Test.YtmdcfnnoeimakaaGreatDoorWg
namespace Go.Am
open Go.ChangeShapes Go.WideShapes Go.ChangeAt Go.RowKit Go.Proofs.YtmdcfnnoeimakaaGreatDoor
set_option linter.unusedVariables false
inductive Two {A B : Type} (R : A → B → Prop) : List A → List B → Prop where
  | nil : Two R [] []
  | cons {a : A} {b : B} {l : List A} {r : List B} (h : R a b) (t : Two R l r) : Two R (a :: l) (b :: r)
theorem Two.pick {A B : Type} {R : A → B → Prop} : ∀ l : List A, (∀ x, x ∈ l → ∃ y, R x y) → ∃ r, Two R l r
  | [], _ => ⟨[], .nil⟩
  | x :: l, h => by
    obtain ⟨y, hy⟩ := h x (List.mem_cons_self ..)
    obtain ⟨r, hr⟩ := Two.pick l fun z hz => h z (List.mem_cons_of_mem _ hz)
    exact ⟨y :: r, .cons hy hr⟩
theorem Two.len {A B : Type} {R : A → B → Prop} {l : List A} {r : List B} (h : Two R l r) : r.length = l.length := by
  induction h with
  | nil => rfl
  | cons _ _ ih => simp [ih]
theorem Two.back {A B : Type} {R : A → B → Prop} {l : List A} {r : List B} (h : Two R l r) : ∀ y, y ∈ r → ∃ x, x ∈ l ∧ R x y := by
  induction h with
  | nil => intro y hy; cases hy
  | cons hab _ ih =>
    intro y hy
    rcases List.mem_cons.1 hy with rfl | hy
    · exact ⟨_, List.mem_cons_self .., hab⟩
    · obtain ⟨x, hx, h⟩ := ih y hy; exact ⟨x, List.mem_cons_of_mem _ hx, h⟩
section
variable {H : Type} {P : Program} {L : RL} {n : Nat} {t e : TypeId} {cs : List Value} {d : DataW H}
/-- Nothing is more than a machine has room for. -/
def Small (P : Program) (t : TypeId) (d : DataW H) : Prop := ∀ m, m ∈ d.weights P t → m ≤ reachBytes
theorem Here.text (ht : P.underlying t = some .string) (h : Here P L (n + 1) t cs d) : ∃ s : List UInt8, cs = [str s] ∧ (Small P t d → s.length ≤ reachBytes) := by
  unfold Here at h; rw [ht] at h
  obtain ⟨s, rfl, rfl⟩ := h
  exact ⟨s.data.toList, rfl, fun hz => hz _ (by simp [DataW.weights])⟩
theorem Here.int (ht : P.underlying t = some (.int .i64)) (h : Here P L (n + 1) t cs d) : ∃ m : Int, cs = [.int .i64 m] ∧ -9223372036854775808 ≤ m ∧ m ≤ 9223372036854775807 := by
  unfold Here at h; rw [ht] at h
  obtain ⟨m, rfl, rfl, hw⟩ := h
  exact ⟨m, rfl, wf_i64 hw⟩
theorem Here.byte (ht : P.underlying t = some (.int .u8)) (h : Here P L (n + 1) t cs d) : ∃ c : UInt8, cs = [.int .u8 (c.toNat : Nat)] := by
  unfold Here at h; rw [ht] at h
  obtain ⟨m, rfl, rfl, hw⟩ := h
  have := wf_u8 hw
  exact ⟨UInt8.ofNat m.toNat, by rw [show ((UInt8.ofNat m.toNat).toNat : Nat) = m.toNat by simp; omega, show ((m.toNat : Nat) : Int) = m by omega]⟩
theorem Here.list (ht : P.underlying t = some (.slice e)) (h : Here P L (n + 1) t cs d) : ∃ (v : Value) (l : List (List Value × DataW H)), cs = [v] ∧ RO (P.cellsOf e) L v l.length (l.flatMap Prod.fst) ∧ (Small P t d → l.length * P.bytesOf e ≤ reachBytes ∧ ∀ x, x ∈ l → Small P e x.2) ∧ ∀ x, x ∈ l → x.1.length = P.cellsOf e ∧ Here P L n e x.1 x.2 := by
  unfold Here at h; rw [ht] at h
  obtain ⟨v, l, sp, rfl, hr, hd, hall⟩ := h
  refine ⟨v, l, rfl, hr, fun hz => ?_, hall⟩
  rcases hd with rfl | ⟨rfl, rfl⟩
  · refine ⟨?_, fun x hx m hm => hz m ?_⟩
    · have := hz ((l.map Prod.snd).length * P.bytesOf e + sp.length * P.bytesOf e) (by simp [DataW.weights, ht, Nat.add_mul])
      rw [List.length_map] at this; omega
    · simp only [DataW.weights, ht]
      exact List.mem_cons_of_mem _ (List.mem_append_left _ (mem_weightsAll (List.mem_map_of_mem hx) hm))
  · exact ⟨by simp, fun x hx => by cases hx⟩
theorem Here.two {f0 f1 : Field} (ht : P.underlying t = some (.struct #[f0, f1])) (h : Here P L (n + 1) t cs d) : ∃ (c0 : List Value) (d0 : DataW H) (c1 : List Value) (d1 : DataW H), cs = c0 ++ (c1 ++ []) ∧ (Small P t d → Small P f0.type d0 ∧ Small P f1.type d1) ∧ Here P L n f0.type c0 d0 ∧ Here P L n f1.type c1 d1 := by
  unfold Here at h; rw [ht] at h
  obtain ⟨l, rfl, rfl, hl, hall⟩ := h
  match l, hl with
  | [x0, x1], _ =>
    refine ⟨x0.1, x0.2, x1.1, x1.2, by simp, fun hz => ⟨fun m hm => hz m ?_, fun m hm => hz m ?_⟩, hall 0 _ _ rfl rfl, hall 1 _ _ rfl rfl⟩ <;> simp [DataW.weights, DataW.weightsEach, ht, hm]
theorem Here.three {f0 f1 f2 : Field} (ht : P.underlying t = some (.struct #[f0, f1, f2])) (h : Here P L (n + 1) t cs d) : ∃ (c0 : List Value) (d0 : DataW H) (c1 : List Value) (d1 : DataW H) (c2 : List Value) (d2 : DataW H), cs = c0 ++ (c1 ++ (c2 ++ [])) ∧ (Small P t d → Small P f0.type d0 ∧ Small P f1.type d1 ∧ Small P f2.type d2) ∧ Here P L n f0.type c0 d0 ∧ Here P L n f1.type c1 d1 ∧ Here P L n f2.type c2 d2 := by
  unfold Here at h; rw [ht] at h
  obtain ⟨l, rfl, rfl, hl, hall⟩ := h
  match l, hl with
  | [x0, x1, x2], _ =>
    refine ⟨x0.1, x0.2, x1.1, x1.2, x2.1, x2.2, by simp, fun hz => ⟨fun m hm => hz m ?_, fun m hm => hz m ?_, fun m hm => hz m ?_⟩, hall 0 _ _ rfl rfl, hall 1 _ _ rfl rfl, hall 2 _ _ rfl rfl⟩ <;> simp [DataW.weights, DataW.weightsEach, ht, hm]
theorem Here.four {f0 f1 f2 f3 : Field} (ht : P.underlying t = some (.struct #[f0, f1, f2, f3])) (h : Here P L (n + 1) t cs d) : ∃ (c0 : List Value) (d0 : DataW H) (c1 : List Value) (d1 : DataW H) (c2 : List Value) (d2 : DataW H) (c3 : List Value) (d3 : DataW H), cs = c0 ++ (c1 ++ (c2 ++ (c3 ++ []))) ∧ (Small P t d → Small P f0.type d0 ∧ Small P f1.type d1 ∧ Small P f2.type d2 ∧ Small P f3.type d3) ∧ Here P L n f0.type c0 d0 ∧ Here P L n f1.type c1 d1 ∧ Here P L n f2.type c2 d2 ∧ Here P L n f3.type c3 d3 := by
  unfold Here at h; rw [ht] at h
  obtain ⟨l, rfl, rfl, hl, hall⟩ := h
  match l, hl with
  | [x0, x1, x2, x3], _ =>
    refine ⟨x0.1, x0.2, x1.1, x1.2, x2.1, x2.2, x3.1, x3.2, by simp, fun hz => ⟨fun m hm => hz m ?_, fun m hm => hz m ?_, fun m hm => hz m ?_, fun m hm => hz m ?_⟩, hall 0 _ _ rfl rfl, hall 1 _ _ rfl rfl, hall 2 _ _ rfl rfl, hall 3 _ _ rfl rfl⟩ <;> simp [DataW.weights, DataW.weightsEach, ht, hm]
/-- A list of texts. -/
theorem Here.texts (ht : P.underlying t = some (.slice e)) (he : P.underlying e = some .string) (hc : P.cellsOf e = 1) (hb : P.bytesOf e = 16) (h : Here P L (n + 2) t cs d) :
    ∃ (v : Value) (ws : List (List UInt8)), cs = [v] ∧ RO 1 L v ws.length (strs ws) ∧ (Small P t d → ws.length * 16 ≤ reachBytes ∧ ∀ w, w ∈ ws → w.length ≤ reachBytes) := by
  obtain ⟨v, l, rfl, hr, hz, hall⟩ := Here.list ht h
  obtain ⟨ws, hws⟩ := Two.pick (R := fun (x : List Value × DataW H) (s : List UInt8) => x ∈ l ∧ x.1 = [str s] ∧ (Small P e x.2 → s.length ≤ reachBytes)) l fun x hx => by
    obtain ⟨s, h1, h2⟩ := Here.text he (hall x hx).2
    exact ⟨s, hx, h1, h2⟩
  have hlen := hws.len
  have hcs : l.flatMap Prod.fst = strs ws := by
    have key : ∀ {l0 : List (List Value × DataW H)} {ws : List (List UInt8)}, Two (fun (x : List Value × DataW H) (s : List UInt8) => x ∈ l ∧ x.1 = [str s] ∧ (Small P e x.2 → s.length ≤ reachBytes)) l0 ws → l0.flatMap Prod.fst = strs ws := fun h => by
      induction h with
      | nil => rfl
      | cons h _ ih => rw [List.flatMap_cons, ih, h.2.1]; rfl
    exact key hws
  rw [hcs, hc] at hr
  refine ⟨v, ws, rfl, by rw [hlen]; exact hr, fun hs => ?_⟩
  obtain ⟨h1, h2⟩ := hz hs
  rw [hb] at h1
  refine ⟨by rw [hlen]; exact h1, fun w hw => ?_⟩
  obtain ⟨x, hx, _, _, h3⟩ := hws.back w hw
  exact h3 (h2 x hx)
end
end Go.Am
