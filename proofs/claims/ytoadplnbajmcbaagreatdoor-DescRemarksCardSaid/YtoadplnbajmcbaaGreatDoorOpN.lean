/- Texts OpenD OpenX OpenG OpenH OpenJ in one. -/
import Derived.Test.YtoadplnbajmcbaaGreatDoorOpM
import Derived.Test.YtoadplnbajmcbaaGreatDoorWg
import Derived.Test.YtoadplnbajmcbaaGreatDoorQf
import Derived.Test.YtoadplnbajmcbaaGreatDoorRtM
import Derived.Handed
import Derived.LaidHandle
import Derived.LaidMore
import Derived.Test.YtoadplnbajmcbaaGreatDoorRows
import Derived.LaidLaws
import Derived.Lib.LaidU8
/- What is handed in, read: texts, numbers, lists of texts, structs. -/
namespace Go.Am
open Go.ChangeShapes Go.WideShapes Go.ChangeAt Go.RowKit Go.Proofs.YtoadplnbajmcbaaGreatDoor
set_option linter.unusedVariables false
inductive Two {A B : Type} (R : A → B → Prop) : List A → List B → Prop where
  | nil : Two R [] []
  | cons {a : A} {b : B} {l : List A} {r : List B} (h : R a b) (t : Two R l r) : Two R (a :: l) (b :: r)
theorem Two.pick {A B : Type} {R : A → B → Prop} : ∀ l : List A, (∀ x, x ∈ l → ∃ y, R x y) → ∃ r, Two R l r
  | [], _ => ⟨[], .nil⟩
  | x :: l, h => by
    obtain ⟨y, hy⟩ := h x (List.mem_cons_self ..)
    obtain ⟨r, hr⟩ := Two.pick l fun z hz => h z (List.mem_cons_of_mem _ hz)
    exact ⟨y :: r, .cons hy hr⟩
theorem Two.len {A B : Type} {R : A → B → Prop} {l : List A} {r : List B} (h : Two R l r) : r.length = l.length := by
  induction h with
  | nil => rfl
  | cons _ _ ih => simp [ih]
theorem Two.back {A B : Type} {R : A → B → Prop} {l : List A} {r : List B} (h : Two R l r) : ∀ y, y ∈ r → ∃ x, x ∈ l ∧ R x y := by
  induction h with
  | nil => intro y hy; cases hy
  | cons hab _ ih =>
    intro y hy
    rcases List.mem_cons.1 hy with rfl | hy
    · exact ⟨_, List.mem_cons_self .., hab⟩
    · obtain ⟨x, hx, h⟩ := ih y hy; exact ⟨x, List.mem_cons_of_mem _ hx, h⟩
section
variable {H : Type} {P : Program} {L : RL} {n : Nat} {t e : TypeId} {cs : List Value} {d : DataW H}
/-- Nothing is more than a machine has room for. -/
def Small (P : Program) (t : TypeId) (d : DataW H) : Prop := ∀ m, m ∈ d.weights P t → m ≤ reachBytes
theorem Here.text (ht : P.underlying t = some .string) (h : Here P L (n + 1) t cs d) : ∃ s : List UInt8, cs = [str s] ∧ (Small P t d → s.length ≤ reachBytes) := by
  unfold Here at h; rw [ht] at h
  obtain ⟨s, rfl, rfl⟩ := h
  exact ⟨s.data.toList, rfl, fun hz => hz _ (by simp [DataW.weights])⟩
theorem Here.int (ht : P.underlying t = some (.int .i64)) (h : Here P L (n + 1) t cs d) : ∃ m : Int, cs = [.int .i64 m] ∧ -9223372036854775808 ≤ m ∧ m ≤ 9223372036854775807 := by
  unfold Here at h; rw [ht] at h
  obtain ⟨m, rfl, rfl, hw⟩ := h
  exact ⟨m, rfl, wf_i64 hw⟩
theorem Here.byte (ht : P.underlying t = some (.int .u8)) (h : Here P L (n + 1) t cs d) : ∃ c : UInt8, cs = [.int .u8 (c.toNat : Nat)] := by
  unfold Here at h; rw [ht] at h
  obtain ⟨m, rfl, rfl, hw⟩ := h
  have := wf_u8 hw
  exact ⟨UInt8.ofNat m.toNat, by rw [show ((UInt8.ofNat m.toNat).toNat : Nat) = m.toNat by simp; omega, show ((m.toNat : Nat) : Int) = m by omega]⟩
theorem Here.list (ht : P.underlying t = some (.slice e)) (h : Here P L (n + 1) t cs d) : ∃ (v : Value) (l : List (List Value × DataW H)), cs = [v] ∧ RO (P.cellsOf e) L v l.length (l.flatMap Prod.fst) ∧ (Small P t d → l.length * P.bytesOf e ≤ reachBytes ∧ ∀ x, x ∈ l → Small P e x.2) ∧ ∀ x, x ∈ l → x.1.length = P.cellsOf e ∧ Here P L n e x.1 x.2 := by
  unfold Here at h; rw [ht] at h
  obtain ⟨v, l, sp, rfl, hr, hd, hall⟩ := h
  refine ⟨v, l, rfl, hr, fun hz => ?_, hall⟩
  rcases hd with rfl | ⟨rfl, rfl⟩
  · refine ⟨?_, fun x hx m hm => hz m ?_⟩
    · have := hz ((l.map Prod.snd).length * P.bytesOf e + sp.length * P.bytesOf e) (by simp [DataW.weights, ht, Nat.add_mul])
      rw [List.length_map] at this; omega
    · simp only [DataW.weights, ht]
      exact List.mem_cons_of_mem _ (List.mem_append_left _ (mem_weightsAll (List.mem_map_of_mem hx) hm))
  · exact ⟨by simp, fun x hx => by cases hx⟩
theorem Here.two {f0 f1 : Field} (ht : P.underlying t = some (.struct #[f0, f1])) (h : Here P L (n + 1) t cs d) : ∃ (c0 : List Value) (d0 : DataW H) (c1 : List Value) (d1 : DataW H), cs = c0 ++ (c1 ++ []) ∧ (Small P t d → Small P f0.type d0 ∧ Small P f1.type d1) ∧ Here P L n f0.type c0 d0 ∧ Here P L n f1.type c1 d1 := by
  unfold Here at h; rw [ht] at h
  obtain ⟨l, rfl, rfl, hl, hall⟩ := h
  match l, hl with
  | [x0, x1], _ =>
    refine ⟨x0.1, x0.2, x1.1, x1.2, by simp, fun hz => ⟨fun m hm => hz m ?_, fun m hm => hz m ?_⟩, hall 0 _ _ rfl rfl, hall 1 _ _ rfl rfl⟩ <;> simp [DataW.weights, DataW.weightsEach, ht, hm]
theorem Here.three {f0 f1 f2 : Field} (ht : P.underlying t = some (.struct #[f0, f1, f2])) (h : Here P L (n + 1) t cs d) : ∃ (c0 : List Value) (d0 : DataW H) (c1 : List Value) (d1 : DataW H) (c2 : List Value) (d2 : DataW H), cs = c0 ++ (c1 ++ (c2 ++ [])) ∧ (Small P t d → Small P f0.type d0 ∧ Small P f1.type d1 ∧ Small P f2.type d2) ∧ Here P L n f0.type c0 d0 ∧ Here P L n f1.type c1 d1 ∧ Here P L n f2.type c2 d2 := by
  unfold Here at h; rw [ht] at h
  obtain ⟨l, rfl, rfl, hl, hall⟩ := h
  match l, hl with
  | [x0, x1, x2], _ =>
    refine ⟨x0.1, x0.2, x1.1, x1.2, x2.1, x2.2, by simp, fun hz => ⟨fun m hm => hz m ?_, fun m hm => hz m ?_, fun m hm => hz m ?_⟩, hall 0 _ _ rfl rfl, hall 1 _ _ rfl rfl, hall 2 _ _ rfl rfl⟩ <;> simp [DataW.weights, DataW.weightsEach, ht, hm]
theorem Here.four {f0 f1 f2 f3 : Field} (ht : P.underlying t = some (.struct #[f0, f1, f2, f3])) (h : Here P L (n + 1) t cs d) : ∃ (c0 : List Value) (d0 : DataW H) (c1 : List Value) (d1 : DataW H) (c2 : List Value) (d2 : DataW H) (c3 : List Value) (d3 : DataW H), cs = c0 ++ (c1 ++ (c2 ++ (c3 ++ []))) ∧ (Small P t d → Small P f0.type d0 ∧ Small P f1.type d1 ∧ Small P f2.type d2 ∧ Small P f3.type d3) ∧ Here P L n f0.type c0 d0 ∧ Here P L n f1.type c1 d1 ∧ Here P L n f2.type c2 d2 ∧ Here P L n f3.type c3 d3 := by
  unfold Here at h; rw [ht] at h
  obtain ⟨l, rfl, rfl, hl, hall⟩ := h
  match l, hl with
  | [x0, x1, x2, x3], _ =>
    refine ⟨x0.1, x0.2, x1.1, x1.2, x2.1, x2.2, x3.1, x3.2, by simp, fun hz => ⟨fun m hm => hz m ?_, fun m hm => hz m ?_, fun m hm => hz m ?_, fun m hm => hz m ?_⟩, hall 0 _ _ rfl rfl, hall 1 _ _ rfl rfl, hall 2 _ _ rfl rfl, hall 3 _ _ rfl rfl⟩ <;> simp [DataW.weights, DataW.weightsEach, ht, hm]
/-- A list of texts. -/
theorem Here.texts (ht : P.underlying t = some (.slice e)) (he : P.underlying e = some .string) (hc : P.cellsOf e = 1) (hb : P.bytesOf e = 16) (h : Here P L (n + 2) t cs d) :
    ∃ (v : Value) (ws : List (List UInt8)), cs = [v] ∧ RO 1 L v ws.length (strs ws) ∧ (Small P t d → ws.length * 16 ≤ reachBytes ∧ ∀ w, w ∈ ws → w.length ≤ reachBytes) := by
  obtain ⟨v, l, rfl, hr, hz, hall⟩ := Here.list ht h
  obtain ⟨ws, hws⟩ := Two.pick (R := fun (x : List Value × DataW H) (s : List UInt8) => x ∈ l ∧ x.1 = [str s] ∧ (Small P e x.2 → s.length ≤ reachBytes)) l fun x hx => by
    obtain ⟨s, h1, h2⟩ := Here.text he (hall x hx).2
    exact ⟨s, hx, h1, h2⟩
  have hlen := hws.len
  have hcs : l.flatMap Prod.fst = strs ws := by
    have key : ∀ {l0 : List (List Value × DataW H)} {ws : List (List UInt8)}, Two (fun (x : List Value × DataW H) (s : List UInt8) => x ∈ l ∧ x.1 = [str s] ∧ (Small P e x.2 → s.length ≤ reachBytes)) l0 ws → l0.flatMap Prod.fst = strs ws := fun h => by
      induction h with
      | nil => rfl
      | cons h _ ih => rw [List.flatMap_cons, ih, h.2.1]; rfl
    exact key hws
  rw [hcs, hc] at hr
  refine ⟨v, ws, rfl, by rw [hlen]; exact hr, fun hs => ?_⟩
  obtain ⟨h1, h2⟩ := hz hs
  rw [hb] at h1
  refine ⟨by rw [hlen]; exact h1, fun w hw => ?_⟩
  obtain ⟨x, hx, _, _, h3⟩ := hws.back w hw
  exact h3 (h2 x hx)
end
end Go.Am

/- What is handed in, in rows: structs and lists; a description of the document. -/
namespace Go.Am
open Go.ChangeShapes Go.WideShapes Go.ChangeAt Go.RowKit Go.Proofs.YtoadplnbajmcbaaGreatDoor
set_option linter.unusedVariables false
section
variable {H : Type} {enc : TypeId × Value → H} {P : Program} {W : World} {r : Reach} {b0 n : Nat} {ρ : Env} {h0 : AW} {L : RL} {t : TypeId} {v : Value} {d : DataW H} {p : List MemPlace}
theorem enter_struct {fs : Array Field} (ht : P.underlying t = some (.struct fs)) (ty : tyOk P n t = true) (hv : Value.okWide P W r b0 t v) (h : DataW.Trod enc P W 0 (fun _ => true) true t v d p) (hb : 0 < W.heap.size) (E : Ent P W ρ h0 L) :
    ∃ (us : List Value) (ρ' : Env) (h' : AW) (L' : RL), ρ.le ρ' ∧ VRel ρ' (.agg ⟨us⟩) v ∧ Ent P W ρ' h' L' ∧ Here P L' n t us d ∧ ∀ p, p ∈ L → p ∈ L' := by
  simp only [Value.okWide, ht] at hv
  obtain ⟨cs, rfl, _⟩ := hv
  obtain ⟨fuel, hf⟩ := h
  obtain ⟨us, ρ', h', L', le, lr, E', he, sb⟩ := enter_any 0 hb n fuel t cs.toList (d, p) ρ h0 L ty hf E
  exact ⟨us, ρ', h', L', le, .agg lr, E', he, sb⟩
theorem enter_list {e : TypeId} (ht : P.underlying t = some (.slice e)) (ty : tyOk P n t = true) (hv : Value.okWide P W r b0 t v) (h : DataW.Trod enc P W 0 (fun _ => true) true t v d p) (hb : 0 < W.heap.size) (E : Ent P W ρ h0 L) :
    ∃ (u : Value) (ρ' : Env) (h' : AW) (L' : RL), ρ.le ρ' ∧ VRel ρ' u v ∧ Ent P W ρ' h' L' ∧ Here P L' n t [u] d ∧ ∀ p, p ∈ L → p ∈ L' := by
  obtain ⟨A, m, c, rfl⟩ := okWide_slice ht hv
  obtain ⟨fuel, hf⟩ := h
  obtain ⟨us, ρ', h', L', le, lr, E', he, sb⟩ := enter_any 0 hb n fuel t [.slice A m c] (d, p) ρ h0 L ty (by simpa [Value.cells] using hf) E
  cases lr with
  | cons hv hs =>
    cases hs
    exact ⟨_, ρ', h', L', le, hv, E', he, sb⟩
theorem Here.bytes {e : TypeId} (ht : P.underlying t = some (.slice e)) (he : P.underlying e = some (.int .u8)) (hc : P.cellsOf e = 1) (h : Here P L (n + 2) t [v] d) :
    ∃ bs : List UInt8, RO 1 L v bs.length (byteCells bs) := by
  obtain ⟨u, l, hu, hr, hz, hall⟩ := Here.list ht h
  obtain rfl : v = u := by simpa using hu
  obtain ⟨bs, hbs⟩ := Two.pick (R := fun (x : List Value × DataW H) (c : UInt8) => x.1 = [.int .u8 (c.toNat : Nat)]) l fun x hx => Here.byte he (hall x hx).2
  have hlen := hbs.len
  have hcs : l.flatMap Prod.fst = byteCells bs := by
    clear hr hz hall hlen
    induction hbs with
    | nil => rfl
    | cons h _ ih => rw [List.flatMap_cons, ih, h]; rfl
  rw [hcs, hc] at hr
  exact ⟨bs, by rw [hlen]; exact hr⟩
end
end Go.Am
namespace Go.Proofs.YtoadplnbajmcbaaGreatDoor
open Go.Am Go.Pd
set_option linter.unusedVariables false
set_option maxRecDepth 20000
section
variable {H : Type} {L : RL} {n : Nat} {cs : List Value} {d : DataW H}
theorem reach_is : Go.reachBytes = 140737488351232 := rfl
theorem here_items (h : Here Tryz.prog L (n + 5) 30 cs d) : ∃ v its ics, cs = [v] ∧ SV 3 L v its.length ics ∧ ItsA L its ics ∧ (Small Tryz.prog 30 d → ItsW its) := by
  obtain ⟨v, l, rfl, hr, hz, hall⟩ := Here.list Tryz.underlying30 h
  obtain ⟨its, hits⟩ := Two.pick (R := fun (x : List Value × DataW H) (it : It) => x ∈ l ∧ ∃ a, x.1 = [.int .i64 it.no, str it.word, a] ∧ SV 1 L a it.args.length (strs it.args) ∧ (Small Tryz.prog 114 x.2 → it.word.length ≤ 140737488351232 ∧ it.args.length * 16 ≤ 140737488351232 ∧ ∀ a, a ∈ it.args → a.length ≤ 140737488351232)) l fun x hx => by
    obtain ⟨c0, d0, c1, d1, c2, d2, hcs, hs, h0, h1, h2⟩ := Here.three Tryz.underlying114 (hall x hx).2
    obtain ⟨m, rfl, _⟩ := Here.int Tryz.underlying3 h0
    obtain ⟨s, rfl, hs1⟩ := Here.text Tryz.underlying9 h1
    obtain ⟨a, ws, rfl, hra, hs2⟩ := Here.texts Tryz.underlying50 Tryz.underlying9 (by kernel_rfl) (by kernel_rfl) h2
    refine ⟨⟨m, s, ws⟩, hx, a, by rw [hcs]; rfl, hra.sv, fun hsm => ?_⟩
    obtain ⟨q0, q1, q2⟩ := hs hsm
    have e1 := hs1 q1
    have e2 := hs2 q2
    rw [reach_is] at e1 e2
    exact ⟨e1, e2⟩
  have hlen := hits.len
  have hcs : ItsA L its (l.flatMap Prod.fst) := by
    have key : ∀ {l0 : List (List Value × DataW H)} {its : List It}, Two (fun (x : List Value × DataW H) (it : It) => x ∈ l ∧ ∃ a, x.1 = [.int .i64 it.no, str it.word, a] ∧ SV 1 L a it.args.length (strs it.args) ∧ (Small Tryz.prog 114 x.2 → it.word.length ≤ 140737488351232 ∧ it.args.length * 16 ≤ 140737488351232 ∧ ∀ a, a ∈ it.args → a.length ≤ 140737488351232)) l0 its → ItsA L its (l0.flatMap Prod.fst) := fun h => by
      induction h with
      | nil => rfl
      | cons h _ ih =>
        obtain ⟨_, a, e1, e2, _⟩ := h
        exact ⟨a, _, by rw [List.flatMap_cons, e1]; rfl, e2, ih⟩
    exact key hits
  have hc3 : Tryz.prog.cellsOf 114 = 3 := by kernel_rfl
  have hb3 : Tryz.prog.bytesOf 114 = 48 := by kernel_rfl
  rw [hc3] at hr
  refine ⟨v, its, _, rfl, by rw [hlen]; exact hr.sv, hcs, fun hsm => ?_⟩
  obtain ⟨q1, q2⟩ := hz hsm
  rw [hb3, reach_is] at q1
  refine ⟨by rw [hlen]; exact q1, fun it hit => ?_⟩
  obtain ⟨x, hx, hxl, a, _, _, hb⟩ := hits.back it hit
  exact hb (q2 x hx)
theorem here_secs (h : Here Tryz.prog L (n + 7) 31 cs d) : ∃ v ss scs, cs = [v] ∧ SV 4 L v ss.length scs ∧ SecsA L ss scs ∧ (Small Tryz.prog 31 d → ss.length * 56 ≤ 140737488351232 ∧ ∀ y, y ∈ ss → y.name.length ≤ 140737488351232 ∧ ItsW y.items) := by
  obtain ⟨v, l, rfl, hr, hz, hall⟩ := Here.list Tryz.underlying31 h
  obtain ⟨ss, hss⟩ := Two.pick (R := fun (x : List Value × DataW H) (y : Se) => ∃ iv ics, x.1 = secC y.no y.kind y.name iv ∧ (SV 3 L iv y.items.length ics ∧ ItsA L y.items ics) ∧ (Small Tryz.prog 104 x.2 → y.name.length ≤ 140737488351232 ∧ ItsW y.items)) l fun x hx => by
    obtain ⟨c0, d0, c1, d1, c2, d2, c3, d3, hcs, hs, h0, h1, h2, h3⟩ := Here.four Tryz.underlying104 (hall x hx).2
    obtain ⟨m, rfl, _⟩ := Here.int Tryz.underlying3 h0
    obtain ⟨k, rfl⟩ := Here.byte Tryz.underlying5 h1
    obtain ⟨s, rfl, hs1⟩ := Here.text Tryz.underlying9 h2
    obtain ⟨iv, its, ics, rfl, hi1, hi2, hi3⟩ := here_items h3
    refine ⟨⟨m, k, s, its⟩, iv, ics, by rw [hcs]; rfl, ⟨hi1, hi2⟩, fun hsm => ?_⟩
    obtain ⟨q0, q1, q2, q3⟩ := hs hsm
    have e1 := hs1 q2
    rw [reach_is] at e1
    exact ⟨e1, hi3 q3⟩
  have hlen := hss.len
  have hcs : SecsA L ss (l.flatMap Prod.fst) := by
    clear hr hz hall hlen
    induction hss with
    | nil => rfl
    | cons h _ ih =>
      obtain ⟨iv, ics, e1, e2, _⟩ := h
      exact ⟨iv, ics, _, by rw [List.flatMap_cons, e1], e2, ih⟩
  have hc4 : Tryz.prog.cellsOf 104 = 4 := by kernel_rfl
  have hb4 : Tryz.prog.bytesOf 104 = 56 := by kernel_rfl
  rw [hc4] at hr
  refine ⟨v, ss, _, rfl, by rw [hlen]; exact hr.sv, hcs, fun hsm => ?_⟩
  obtain ⟨q1, q2⟩ := hz hsm
  rw [hb4, reach_is] at q1
  refine ⟨by rw [hlen]; exact q1, fun y hy => ?_⟩
  obtain ⟨x, hx, iv, ics, _, _, hb⟩ := hss.back y hy
  exact hb (q2 x hx)
/-- A description that is handed in. -/
theorem here_doc (h : Here Tryz.prog L (n + 8) 33 cs d) (hz : Small Tryz.prog 33 d) : ∃ hv sv D, cs = [hv, sv] ∧ DocA L (.agg #[hv, sv]) D ∧ DocW D := by
  obtain ⟨c0, d0, c1, d1, rfl, hs, h0, h1⟩ := Here.two Tryz.underlying33 h
  obtain ⟨q0, q1⟩ := hs hz
  obtain ⟨hv, its, ics, rfl, i1, i2, i3⟩ := here_items h0
  obtain ⟨sv, ss, scs, rfl, j1, j2, j3⟩ := here_secs h1
  exact ⟨hv, sv, ⟨its, ss⟩, rfl, ⟨hv, sv, ics, scs, rfl, i1, i2, j1, j2⟩, i3 q0, j3 q1⟩
theorem ty_doc : tyOk Tryz.prog 8 33 = true := by kernel_rfl
theorem ty_bytes : tyOk Tryz.prog 2 49 = true := by kernel_rfl
end
end Go.Proofs.YtoadplnbajmcbaaGreatDoor

/- Package variables at the entry. -/
namespace Go.Am
variable {P : Program} {ρ : Env} {h : AW} {w : World} {L : RL}
theorem enterG (HR : HRel P ρ h w) (ro : ∀ r row, h.get r = some row → row.own = false) (H : Has h L) (g : Nat) (cs : List Value) (hb : g < w.heap.size) (hc : cs ≠ [] → ∃ e f, w.heap[g]? = some (.cells ⟨cs⟩ e f)) :
    ∃ r ρ' h', ρ.le ρ' ∧ HRel P ρ' h' w ∧ (∀ r row, h'.get r = some row → row.own = false) ∧ Has h' ((r, .glob g cs) :: L) := by
  obtain ⟨h', e⟩ := h.new_some (.glob g cs)
  obtain ⟨_, hg, hn, hs⟩ := new_eq e
  have hnone : ρ h.next = none := HR.fresh0
  have le := upd_le (l := { block := g, base := 0, ext := 0, esz := 0 }) hnone
  have ro' : ∀ r row, h'.get r = some row → row.own = false := fun r row hr => by
    rw [hg] at hr
    split at hr
    · simp at hr; subst hr; rfl
    · exact ro r row hr
  refine ⟨h.next, upd ρ h.next { block := g, base := 0, ext := 0, esz := 0 }, h', le, ⟨fun r row hr => ?_, fun r r' row row' l₁ l₂ h1 h2 _ _ _ ho => ?_, fresh_upd HR rfl hn hs, by rw [hs]; exact HR.step⟩, ro', H.new e⟩
  · rw [hg] at hr
    split at hr
    · simp at hr; subst hr; subst_vars
      exact ⟨{ block := g, base := 0, ext := 0, esz := 0 }, by simp [upd], ⟨rfl, rfl⟩, hb, hc⟩
    · obtain ⟨l', hl', hr'⟩ := HR.loc r row hr
      exact ⟨l', le _ _ hl', hr'.keep le rfl⟩
  · rw [ro' r row h1, ro' r' row' h2] at ho; simp at ho
end Go.Am

/- A law that reads package variables: what is there besides at the entry. -/
namespace Go.Am
section
variable {H : Type} {enc : TypeId × Value → H}
/-- As the kit's way in, but that the world's shape is handed on: the descriptors' block is there. -/
theorem handed_shaped {a : Assume} {C : Checked} {os : Os} {f : FuncId} {fn : Func} {s : ChangeSpec} {conds : List PathCond} {apart fresh handsOn again : Bool} {X : World → Prop} (hX : ∀ w w' : World, w.heap = w'.heap → X w → X w')
    (own : ownKnob C.prog.godebug = none) (started : os.Started) (noInit : C.prog.inits.idxOf? f = none) (hfn : C.prog.funcs[f]? = some fn)
    (witness : ∃ (w : World) (tape : Tape) (i : Input), w.os = os ∧ (w.forCall tape i).Shaped C.prog ∧ i.vars = [] ∧ Input.okWide C.prog (w.forCall tape i) .any w.heap.size f i ∧
      ((s.pre enc C.prog fn conds apart (w.forCall tape i).memory i.args ∧ X (w.forCall tape i).memory) ∧ sizedMet enc C.prog fn (OpenSpec.ofChange s) apart (w.forCall tape i).memory i.args) ∧ a.holds C.prog (lone (Frame.enter C.prog f i.args .normal) [] (w.forCall tape i)))
    (contract : ∀ (W : World) (base : Nat) (args : Array Value) (ds gs : List (DataW H)) (before : List MemPlace), W.ShapedOpen C.prog →
      (∀ (j : Nat) t v, fn.params[j]? = some t → args[j]? = some v → Value.okWide C.prog W .any base t v) → DataW.Whole enc C.prog fn.params.toList s.vars apart W args.toList ds gs before →
      conds.all (PathCond.test C.prog ⟨fn.params.toList, ds, s.plain.varTypes C.prog, gs⟩) = true → (DataW.weightsEach C.prog (fn.params.toList ++ s.plain.varTypes C.prog) (ds ++ gs)).all (· ≤ reachBytes) = true → X W →
      a.holds C.prog (lone (Frame.enter C.prog f args .normal) [] W) → Calls C.prog f args W fun e W' => ∃ v, e = .returned v ∧ s.post enc C.prog fn apart fresh handsOn again W args v W') :
    ReturnsInHanded a C os f .any (fun w args => (s.pre enc C.prog fn conds apart w args ∧ X w) ∧ sizedMet enc C.prog fn (OpenSpec.ofChange s) apart w args) (s.post enc C.prog fn apart fresh handsOn again) := by
  refine returnsInHanded_of_calls own started noInit witness ?_
  intro w tape i _ hsh _ hok hpre hholds
  obtain ⟨_, _, _, fn', hfn', _, _, _, _, hval⟩ := hok
  obtain rfl : fn' = fn := Option.some.inj (hfn'.symm.trans hfn)
  obtain ⟨⟨⟨ds, gs, before, hw, hc⟩, hx⟩, hz⟩ := hpre
  have hw' := DataW.Whole.of_heap (w' := w.forCall tape i) (by rfl) hw
  refine (contract (w.forCall tape i) w.heap.size i.args ds gs before hsh hval hw' hc (hz.weights hw) (hX _ _ (by rfl) hx) hholds).mono fun e W' ⟨v, he, hp⟩ => ?_
  subst he
  exact ChangeSpec.post_blind hp
theorem shaped_size {P : Program} {w : World} (h : w.ShapedOpen P) (hb : P.globals.size < (begin P (fun _ _ => 0) default).world.heap.size) : P.globals.size < w.heap.size := by
  obtain ⟨o, _, ho, _⟩ := h.2 _ (Nat.le_refl _) hb
  rcases Nat.lt_or_ge P.globals.size w.heap.size with h | h
  · exact h
  · rw [Array.getElem?_eq_none h] at ho; cases ho
theorem var_glob {P : Program} {w : World} {n : String} {g : Nat} {cs : Array Value} (hn : P.globalNamed n = some g) (h : w.var? P n = some cs) : g < w.heap.size ∧ ∃ e f, w.heap[g]? = some (.cells cs e f) := by
  unfold World.var? at h
  rw [hn] at h
  simp only [Option.bind_some] at h
  split at h
  · rename_i c e f hg
    simp at h; subst h
    refine ⟨?_, e, f, hg⟩
    rcases Nat.lt_or_ge g w.heap.size with h | h
    · exact h
    · rw [Array.getElem?_eq_none h] at hg; cases hg
  · cases h
end
end Go.Am

/- The package variables that a law of layer 12 finds at its entry. -/
namespace Go.Proofs.YtoadplnbajmcbaaGreatDoor
open Go.Am
set_option linter.unusedVariables false
set_option maxRecDepth 20000
abbrev LD : List (String × DataW Unit) := Rows.descWordsRow.laid
theorem rt_is : (Tryz.prog.cutTypes.find? (·.1 == "internal/reflectlite.rtype")).map (·.2) = some RT := by kernel_rfl
theorem row_is : ((List.range Tryz.prog.types.size).filter fun t => Tryz.prog.rowNamed t [101, 114, 114, 111, 114]) = [94] := by kernel_rfl
theorem et_is : Tryz.prog.globalNamed "errors.errorType" = some 0 := by kernel_rfl
theorem es_is : Tryz.prog.globalNamed "strconv.ErrSyntax" = some 4 := by kernel_rfl
theorem er_is : Tryz.prog.globalNamed "strconv.ErrRange" = some 5 := by kernel_rfl
theorem pw_is : Tryz.prog.globalNamed "internal/strconv.uint64pow10" = some 6 := by kernel_rfl
theorem errorType_of {W : World} (h : laidMetH Tryz.prog LD W) : W.var? Tryz.prog "errors.errorType" = some #[.iface RT (.agg #[wh 94])] := by
  have h' : laidMet Tryz.prog (LD.filter fun x => x.2.handleName?.isNone) W ∧ handlesMet Tryz.prog [("errors.errorType", Rows.laid_errors_errorType)] W := h
  obtain ⟨name, u, ty, e1, e2, e3, e4, e5⟩ := h'.2 _ (List.mem_singleton.2 rfl)
  have en : name = [101, 114, 114, 111, 114] := (Option.some.inj e1).symm
  subst en
  obtain rfl := Option.some.inj (rt_is.symm.trans e2)
  have hm : ty ∈ (List.range Tryz.prog.types.size).filter fun t => Tryz.prog.rowNamed t [101, 114, 114, 111, 114] := List.mem_filter.2 ⟨List.mem_range.2 e3, e4⟩
  rw [row_is] at hm
  obtain rfl := List.mem_singleton.1 hm
  have hh : typeHandle Tryz.prog 94 = wh 94 := by kernel_rfl
  rw [hh] at e5
  exact e5
theorem sentinel_of {W : World} (h : laidMetH Tryz.prog LD W) {n : String} {nm : String} {d : DataW Unit} {g ti : Nat} (hm : (n, DataW.iface nm d) ∈ LD.filter fun x => x.2.handleName?.isNone) (hg : Tryz.prog.globalNamed n = some g) (ht : (Tryz.prog.globals[g]?).map (·.type) = some ti) (hi : (match Tryz.prog.underlying ti with | some (.interface _) => true | _ => false) = true) :
    ∃ t x, W.var? Tryz.prog n = some #[.iface t x] := by
  have h' : laidMet Tryz.prog (LD.filter fun x => x.2.handleName?.isNone) W ∧ handlesMet Tryz.prog [("errors.errorType", Rows.laid_errors_errorType)] W := h
  obtain ⟨g', t', cs, fuel, p, h1, h2, h3, h4⟩ := Go.Lib.laidMet.reads h'.1 hm
  obtain rfl := Option.some.inj (hg.symm.trans h1)
  obtain rfl := Option.some.inj (ht.symm.trans h2)
  obtain ⟨ms, hi⟩ : ∃ ms, Tryz.prog.underlying ti = some (.interface ms) := by
    split at hi
    · rename_i ms h; exact ⟨ms, h⟩
    · cases hi
  obtain ⟨_, u, v, hc, _⟩ := iface_of_trod hi h4
  refine ⟨u, v, ?_⟩
  rw [h3]
  cases cs with | mk l => simp at hc; rw [hc]
theorem pow10_of {W : World} (h : laidMetH Tryz.prog LD W) : W.var? Tryz.prog "internal/strconv.uint64pow10" = some pow10V.toArray := by
  have h' : laidMet Tryz.prog (LD.filter fun x => x.2.handleName?.isNone) W ∧ handlesMet Tryz.prog [("errors.errorType", Rows.laid_errors_errorType)] W := h
  have hm : ("internal/strconv.uint64pow10", (Go.Lib.tabData .u64 Go.Lib.pow10Tab : DataW Unit)) ∈ LD.filter fun x => x.2.handleName?.isNone := by
    rw [show LD.filter (fun x => x.2.handleName?.isNone) = [_, _, _, _, _, _, _] from rfl]
    exact .tail _ (.tail _ (.head _))
  obtain ⟨g', t', cs, fuel, p, h1, h2, h3, h4⟩ := Go.Lib.laidMet.reads h'.1 hm
  obtain rfl := Option.some.inj (pw_is.symm.trans h1)
  obtain rfl := Option.some.inj ((show (Tryz.prog.globals[6]?).map (·.type) = some 368 by kernel_rfl).symm.trans h2)
  have := Go.Lib.cells_of_tab (t := 368) (e := 351) (n := 20) (by kernel_rfl) (by kernel_rfl) (by kernel_rfl) (by kernel_rfl) h4
  rw [h3]
  cases cs with | mk l => simp at this; rw [this]; rfl
theorem gl_entry {W : World} (h : laidMetH Tryz.prog LD W) (hD : Tryz.prog.globals.size < W.heap.size) : ∃ g ρ h L, HRel Tryz.prog ρ h W ∧ (∀ r row, h.get r = some row → row.own = false) ∧ Has h L ∧ GL g L := by
  obtain ⟨t1, x1, hs⟩ := sentinel_of h (n := "strconv.ErrSyntax") (d := _) (.tail _ (.tail _ (.tail _ (.tail _ (.tail _ (.head _)))))) es_is (ti := 94) (by kernel_rfl) (by kernel_rfl)
  obtain ⟨t2, x2, hr⟩ := sentinel_of h (n := "strconv.ErrRange") (d := _) (.tail _ (.tail _ (.tail _ (.tail _ (.head _))))) er_is (ti := 94) (by kernel_rfl) (by kernel_rfl)
  obtain ⟨he1, he2⟩ := var_glob et_is (errorType_of h)
  obtain ⟨hs1, hs2⟩ := var_glob es_is hs
  obtain ⟨hr1, hr2⟩ := var_glob er_is hr
  obtain ⟨hp1, hp2⟩ := var_glob pw_is (pow10_of h)
  obtain ⟨H0, ro0, A0⟩ := enter0 (P := Tryz.prog) W
  obtain ⟨gd, ρ1, h1, _, H1, ro1, A1⟩ := enterG H0 ro0 A0 DB [] hD (fun q => absurd rfl q)
  obtain ⟨ge, ρ2, h2, _, H2, ro2, A2⟩ := enterG H1 ro1 A1 0 [.iface RT (.agg #[wh 94])] he1 (fun _ => he2)
  obtain ⟨gs, ρ3, h3, _, H3, ro3, A3⟩ := enterG H2 ro2 A2 4 [.iface t1 x1] hs1 (fun _ => hs2)
  obtain ⟨gr, ρ4, h4, _, H4, ro4, A4⟩ := enterG H3 ro3 A3 5 [.iface t2 x2] hr1 (fun _ => hr2)
  obtain ⟨gp, ρ5, h5, _, H5, ro5, A5⟩ := enterG H4 ro4 A4 6 pow10V hp1 (fun _ => hp2)
  exact ⟨⟨gd, ge, gs, gr, gp, .iface t1 x1, .iface t2 x2⟩, ρ5, h5, _, H5, ro5, A5, by simp, by simp, by simp, by simp, by simp, ⟨t1, x1, rfl⟩, ⟨t2, x2, rfl⟩⟩
end Go.Proofs.YtoadplnbajmcbaaGreatDoor
