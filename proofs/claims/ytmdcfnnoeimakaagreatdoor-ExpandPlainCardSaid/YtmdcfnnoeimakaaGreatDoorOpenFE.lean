/- What is handed in, read: variables. -/
import Derived.Test.YtmdcfnnoeimakaaGreatDoorOpenD
import Derived.Test.YtmdcfnnoeimakaaGreatDoorFXg
namespace Go.Am
open Go.ChangeShapes Go.WideShapes Go.ChangeAt Go.RowKit Go.Proofs.YtmdcfnnoeimakaaGreatDoor
set_option linter.unusedVariables false
section
variable {H : Type} {enc : TypeId × Value → H} {P : Program} {W : World} {r : Reach} {b0 n : Nat} {ρ : Env} {h0 : AW} {L : RL} {t : TypeId} {v : Value} {d : DataW H} {p : List MemPlace}
theorem enter_struct {fs : Array Field} (ht : P.underlying t = some (.struct fs)) (ty : tyOk P n t = true) (hv : Value.okWide P W r b0 t v) (h : DataW.Trod enc P W 0 (fun _ => true) true t v d p) (hb : 0 < W.heap.size) (E : Ent P W ρ h0 L) :
    ∃ (us : List Value) (ρ' : Env) (h' : AW) (L' : RL), ρ.le ρ' ∧ VRel ρ' (.agg ⟨us⟩) v ∧ Ent P W ρ' h' L' ∧ Here P L' n t us d ∧ ∀ p, p ∈ L → p ∈ L' := by
  simp only [Value.okWide, ht] at hv
  obtain ⟨cs, rfl, _⟩ := hv
  obtain ⟨fuel, hf⟩ := h
  obtain ⟨us, ρ', h', L', le, lr, E', he, sb⟩ := enter_any 0 hb n fuel t cs.toList (d, p) ρ h0 L ty hf E
  exact ⟨us, ρ', h', L', le, .agg lr, E', he, sb⟩
theorem enter_list {e : TypeId} (ht : P.underlying t = some (.slice e)) (ty : tyOk P n t = true) (hv : Value.okWide P W r b0 t v) (h : DataW.Trod enc P W 0 (fun _ => true) true t v d p) (hb : 0 < W.heap.size) (E : Ent P W ρ h0 L) :
    ∃ (u : Value) (ρ' : Env) (h' : AW) (L' : RL), ρ.le ρ' ∧ VRel ρ' u v ∧ Ent P W ρ' h' L' ∧ Here P L' n t [u] d ∧ ∀ p, p ∈ L → p ∈ L' := by
  obtain ⟨A, m, c, rfl⟩ := okWide_slice ht hv
  obtain ⟨fuel, hf⟩ := h
  obtain ⟨us, ρ', h', L', le, lr, E', he, sb⟩ := enter_any 0 hb n fuel t [.slice A m c] (d, p) ρ h0 L ty (by simpa [Value.cells] using hf) E
  cases lr with
  | cons hv hs =>
    cases hs
    exact ⟨_, ρ', h', L', le, hv, E', he, sb⟩
theorem Here.bytes {e : TypeId} (ht : P.underlying t = some (.slice e)) (he : P.underlying e = some (.int .u8)) (hc : P.cellsOf e = 1) (h : Here P L (n + 2) t [v] d) :
    ∃ bs : List UInt8, RO 1 L v bs.length (byteCells bs) := by
  obtain ⟨u, l, hu, hr, hz, hall⟩ := Here.list ht h
  obtain rfl : v = u := by simpa using hu
  obtain ⟨bs, hbs⟩ := Two.pick (R := fun (x : List Value × DataW H) (c : UInt8) => x.1 = [.int .u8 (c.toNat : Nat)]) l fun x hx => Here.byte he (hall x hx).2
  have hlen := hbs.len
  have hcs : l.flatMap Prod.fst = byteCells bs := by
    clear hr hz hall hlen
    induction hbs with
    | nil => rfl
    | cons h _ ih => rw [List.flatMap_cons, ih, h]; rfl
  rw [hcs, hc] at hr
  exact ⟨bs, by rw [hlen]; exact hr⟩
end
end Go.Am
namespace Go.Proofs.YtmdcfnnoeimakaaGreatDoor
open Go.Proofs.YtmdcfnnoeimakaaGreatDoor.E
open Go.Am Go.ChangeShapes Go.WideShapes Go.ChangeAt Go.RowKit
set_option linter.unusedVariables false
set_option linter.unusedSimpArgs false
set_option maxRecDepth 20000
theorem reach_is : Go.reachBytes = 140737488351232 := rfl
theorem ty_vars : tyOk Tryz.prog 6 26 = true := by kernel_rfl
section
variable {H : Type} {L : RL} {n : Nat} {cs : List Value} {d : DataW H}
theorem here_vars (h : Here Tryz.prog L (n + 5) 26 cs d) : ∃ v l, cs = [v] ∧ SV 2 L v l.length (fl l) ∧ (Small Tryz.prog 26 d → l.length * 32 ≤ 140737488351232 ∧ ∀ p, p ∈ l → p.1.length ≤ 140737488351232 ∧ p.2.length ≤ 140737488351232) := by
  obtain ⟨v, l, rfl, hr, hz, hall⟩ := Here.list Tryz.underlying26 h
  obtain ⟨its, hits⟩ := Two.pick (R := fun (x : List Value × DataW H) (it : W × W) => x ∈ l ∧ x.1 = [str it.1, str it.2] ∧ (Small Tryz.prog 25 x.2 → it.1.length ≤ 140737488351232 ∧ it.2.length ≤ 140737488351232)) l fun x hx => by
    obtain ⟨c0, d0, c1, d1, hcs, hs, h0, h1⟩ := Here.two Tryz.underlying25 (hall x hx).2
    obtain ⟨s, rfl, hs1⟩ := Here.text Tryz.underlying9 h0
    obtain ⟨s2, rfl, hs2⟩ := Here.text Tryz.underlying9 h1
    refine ⟨(s, s2), hx, by rw [hcs]; rfl, fun hsm => ?_⟩
    obtain ⟨q0, q1⟩ := hs hsm
    have e1 := hs1 q0
    have e2 := hs2 q1
    rw [reach_is] at e1 e2
    exact ⟨e1, e2⟩
  have hlen := hits.len
  have hcs : l.flatMap Prod.fst = fl its := by
    have key : ∀ {l0 : List (List Value × DataW H)} {its : List (W × W)}, Two (fun (x : List Value × DataW H) (it : W × W) => x ∈ l ∧ x.1 = [str it.1, str it.2] ∧ (Small Tryz.prog 25 x.2 → it.1.length ≤ 140737488351232 ∧ it.2.length ≤ 140737488351232)) l0 its → l0.flatMap Prod.fst = fl its := fun h => by
      induction h with
      | nil => rfl
      | cons h _ ih => rw [List.flatMap_cons, ih, h.2.1]; rfl
    exact key hits
  have hc3 : Tryz.prog.cellsOf 25 = 2 := by kernel_rfl
  have hb3 : Tryz.prog.bytesOf 25 = 32 := by kernel_rfl
  rw [hc3, hcs] at hr
  refine ⟨v, its, rfl, by rw [hlen]; exact hr.sv, fun hsm => ?_⟩
  obtain ⟨q1, q2⟩ := hz hsm
  rw [hb3, reach_is] at q1
  refine ⟨by rw [hlen]; exact q1, fun it hit => ?_⟩
  obtain ⟨x, hx, hxl, _, hb⟩ := hits.back it hit
  exact hb (q2 x hx)
end
end Go.Proofs.YtmdcfnnoeimakaaGreatDoor
