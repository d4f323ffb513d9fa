import Derived.Test.YtllcbjaajffaeaaGreatDoorOpN
import Derived.Test.YtllcbjaajffaeaaGreatDoorRows
namespace Go.Proofs.YtllcbjaajffaeaaGreatDoor.U
set_option linter.unusedSimpArgs false
open Go.Am Go.Pd Go.Proofs.YtllcbjaajffaeaaGreatDoor Go.Proofs.YtllcbjaajffaeaaGreatDoor.Rows
set_option linter.unusedVariables false
set_option maxRecDepth 20000
theorem one_le {H : Type} (d : DataW H) : 1 ≤ uptoBulk d := by
  cases d with
  | lit l => cases l <;> simp [uptoBulk]
  | _ => simp [uptoBulk]
theorem part_le {H : Type} {d : DataW H} {l : List (DataW H)} (h : d ∈ l) : uptoBulk d ≤ uptoBulkAll l := by
  induction l with
  | nil => cases h
  | cons x r ih =>
    simp only [uptoBulkAll]
    rcases List.mem_cons.1 h with rfl | e
    · omega
    · have := ih e; omega
theorem length_le {H : Type} (l : List (DataW H)) : l.length ≤ uptoBulkAll l := by
  induction l with
  | nil => simp [uptoBulkAll]
  | cons x r ih => have := one_le x; simp only [uptoBulkAll, List.length_cons]; omega
theorem slice_le {H : Type} (es sp : List (DataW H)) : es.length + sp.length + 1 ≤ uptoBulk (.slice es sp) := by
  have h1 := length_le es
  have h2 := length_le sp
  simp only [uptoBulk]; omega
theorem slice_elems {H : Type} (es sp : List (DataW H)) : uptoBulkAll es + 1 ≤ uptoBulk (.slice es sp) := by simp only [uptoBulk]; omega
theorem string_eq {H : Type} (bytes : List UInt8) : uptoBulk (DataW.lit (H := H) (.string bytes)) = bytes.length + 1 := by simp [uptoBulk]
def SmallU {H : Type} (d : DataW H) : Prop := uptoBulk d ≤ 1048576
def ItsU (l : List It) : Prop := l.length ≤ 1048576 ∧ ∀ x, x ∈ l → x.word.length ≤ 1048576 ∧ x.args.length ≤ 1048576 ∧ ∀ a, a ∈ x.args → a.length ≤ 1048576
def DocU (d : Dc) : Prop := ItsU d.head ∧ d.secs.length ≤ 1048576 ∧ ∀ y, y ∈ d.secs → y.name.length ≤ 1048576 ∧ ItsU y.items
section
variable {H : Type} {P : Program} {L : RL} {n : Nat} {t e : TypeId} {cs : List Value} {d : DataW H}
theorem utext (ht : P.underlying t = some .string) (h : Here P L (n + 1) t cs d) : ∃ s : List UInt8, cs = [str s] ∧ (SmallU d → s.length ≤ 1048576) := by
  unfold Here at h; rw [ht] at h
  obtain ⟨s, rfl, rfl⟩ := h
  exact ⟨s.data.toList, rfl, fun hz => by
    have := (show uptoBulk (DataW.lit (H := H) (.string s.data.toList)) ≤ 1048576 from hz)
    rw [string_eq] at this; omega⟩
theorem ulist (ht : P.underlying t = some (.slice e)) (h : Here P L (n + 1) t cs d) : ∃ (v : Value) (l : List (List Value × DataW H)), cs = [v] ∧ RO (P.cellsOf e) L v l.length (l.flatMap Prod.fst) ∧ (SmallU d → l.length ≤ 1048576 ∧ ∀ x, x ∈ l → SmallU x.2) ∧ ∀ x, x ∈ l → x.1.length = P.cellsOf e ∧ Here P L n e x.1 x.2 := by
  unfold Here at h; rw [ht] at h
  obtain ⟨v, l, sp, rfl, hr, hd, hall⟩ := h
  refine ⟨v, l, rfl, hr, fun hz => ?_, hall⟩
  rcases hd with rfl | ⟨rfl, rfl⟩
  · have h1 := slice_le (l.map Prod.snd) sp
    have h2 := slice_elems (l.map Prod.snd) sp
    unfold SmallU at hz
    rw [List.length_map] at h1
    refine ⟨by omega, fun x hx => ?_⟩
    have h3 := part_le (List.mem_map_of_mem (f := Prod.snd) hx)
    show uptoBulk x.2 ≤ 1048576
    omega
  · exact ⟨by simp, fun x hx => by cases hx⟩
theorem utwo {f0 f1 : Field} (ht : P.underlying t = some (.struct #[f0, f1])) (h : Here P L (n + 1) t cs d) : ∃ (c0 : List Value) (d0 : DataW H) (c1 : List Value) (d1 : DataW H), cs = c0 ++ (c1 ++ []) ∧ (SmallU d → SmallU d0 ∧ SmallU d1) ∧ Here P L n f0.type c0 d0 ∧ Here P L n f1.type c1 d1 := by
  unfold Here at h; rw [ht] at h
  obtain ⟨l, rfl, rfl, hl, hall⟩ := h
  match l, hl with
  | [x0, x1], _ =>
    refine ⟨x0.1, x0.2, x1.1, x1.2, by simp, fun hz => ?_, hall 0 _ _ rfl rfl, hall 1 _ _ rfl rfl⟩
    unfold SmallU at hz ⊢
    simp [uptoBulk, uptoBulkAll] at hz
    omega
theorem uthree {f0 f1 f2 : Field} (ht : P.underlying t = some (.struct #[f0, f1, f2])) (h : Here P L (n + 1) t cs d) : ∃ (c0 : List Value) (d0 : DataW H) (c1 : List Value) (d1 : DataW H) (c2 : List Value) (d2 : DataW H), cs = c0 ++ (c1 ++ (c2 ++ [])) ∧ (SmallU d → SmallU d0 ∧ SmallU d1 ∧ SmallU d2) ∧ Here P L n f0.type c0 d0 ∧ Here P L n f1.type c1 d1 ∧ Here P L n f2.type c2 d2 := by
  unfold Here at h; rw [ht] at h
  obtain ⟨l, rfl, rfl, hl, hall⟩ := h
  match l, hl with
  | [x0, x1, x2], _ =>
    refine ⟨x0.1, x0.2, x1.1, x1.2, x2.1, x2.2, by simp, fun hz => ?_, hall 0 _ _ rfl rfl, hall 1 _ _ rfl rfl, hall 2 _ _ rfl rfl⟩
    unfold SmallU at hz ⊢
    simp [uptoBulk, uptoBulkAll] at hz
    omega
theorem ufour {f0 f1 f2 f3 : Field} (ht : P.underlying t = some (.struct #[f0, f1, f2, f3])) (h : Here P L (n + 1) t cs d) : ∃ (c0 : List Value) (d0 : DataW H) (c1 : List Value) (d1 : DataW H) (c2 : List Value) (d2 : DataW H) (c3 : List Value) (d3 : DataW H), cs = c0 ++ (c1 ++ (c2 ++ (c3 ++ []))) ∧ (SmallU d → SmallU d0 ∧ SmallU d1 ∧ SmallU d2 ∧ SmallU d3) ∧ Here P L n f0.type c0 d0 ∧ Here P L n f1.type c1 d1 ∧ Here P L n f2.type c2 d2 ∧ Here P L n f3.type c3 d3 := by
  unfold Here at h; rw [ht] at h
  obtain ⟨l, rfl, rfl, hl, hall⟩ := h
  match l, hl with
  | [x0, x1, x2, x3], _ =>
    refine ⟨x0.1, x0.2, x1.1, x1.2, x2.1, x2.2, x3.1, x3.2, by simp, fun hz => ?_, hall 0 _ _ rfl rfl, hall 1 _ _ rfl rfl, hall 2 _ _ rfl rfl, hall 3 _ _ rfl rfl⟩
    unfold SmallU at hz ⊢
    simp [uptoBulk, uptoBulkAll] at hz
    omega
theorem utexts (ht : P.underlying t = some (.slice e)) (he : P.underlying e = some .string) (hc : P.cellsOf e = 1) (hb : P.bytesOf e = 16) (h : Here P L (n + 2) t cs d) :
    ∃ (v : Value) (ws : List (List UInt8)), cs = [v] ∧ RO 1 L v ws.length (strs ws) ∧ (SmallU d → ws.length ≤ 1048576 ∧ ∀ w, w ∈ ws → w.length ≤ 1048576) := by
  obtain ⟨v, l, rfl, hr, hz, hall⟩ := ulist ht h
  obtain ⟨ws, hws⟩ := Two.pick (R := fun (x : List Value × DataW H) (s : List UInt8) => x ∈ l ∧ x.1 = [str s] ∧ (SmallU x.2 → s.length ≤ 1048576)) l fun x hx => by
    obtain ⟨s, h1, h2⟩ := utext he (hall x hx).2
    exact ⟨s, hx, h1, h2⟩
  have hlen := hws.len
  have hcs : l.flatMap Prod.fst = strs ws := by
    have key : ∀ {l0 : List (List Value × DataW H)} {ws : List (List UInt8)}, Two (fun (x : List Value × DataW H) (s : List UInt8) => x ∈ l ∧ x.1 = [str s] ∧ (SmallU x.2 → s.length ≤ 1048576)) l0 ws → l0.flatMap Prod.fst = strs ws := fun h => by
      induction h with
      | nil => rfl
      | cons h _ ih => rw [List.flatMap_cons, ih, h.2.1]; rfl
    exact key hws
  rw [hcs, hc] at hr
  refine ⟨v, ws, rfl, by rw [hlen]; exact hr, fun hs => ?_⟩
  obtain ⟨h1, h2⟩ := hz hs
  refine ⟨by rw [hlen]; exact h1, fun w hw => ?_⟩
  obtain ⟨x, hx, _, _, h3⟩ := hws.back w hw
  exact h3 (h2 x hx)
end
section
variable {H : Type} {L : RL} {n : Nat} {cs : List Value} {d : DataW H}
theorem here_uitems (h : Here Tryz.prog L (n + 5) 30 cs d) : ∃ v its ics, cs = [v] ∧ SV 3 L v its.length ics ∧ ItsA L its ics ∧ (SmallU d → ItsU its) := by
  obtain ⟨v, l, rfl, hr, hz, hall⟩ := ulist Tryz.underlying30 h
  obtain ⟨its, hits⟩ := Two.pick (R := fun (x : List Value × DataW H) (it : It) => x ∈ l ∧ ∃ a, x.1 = [.int .i64 it.no, str it.word, a] ∧ SV 1 L a it.args.length (strs it.args) ∧ (SmallU x.2 → it.word.length ≤ 1048576 ∧ it.args.length ≤ 1048576 ∧ ∀ a, a ∈ it.args → a.length ≤ 1048576)) l fun x hx => by
    obtain ⟨c0, d0, c1, d1, c2, d2, hcs, hs, h0, h1, h2⟩ := uthree Tryz.underlying110 (hall x hx).2
    obtain ⟨m, rfl, _⟩ := Here.int Tryz.underlying3 h0
    obtain ⟨s, rfl, hs1⟩ := utext Tryz.underlying9 h1
    obtain ⟨a, ws, rfl, hra, hs2⟩ := utexts Tryz.underlying68 Tryz.underlying9 (by kernel_rfl) (by kernel_rfl) h2
    refine ⟨⟨m, s, ws⟩, hx, a, by rw [hcs]; rfl, hra.sv, fun hsm => ?_⟩
    obtain ⟨q0, q1, q2⟩ := hs hsm
    have e1 := hs1 q1
    have e2 := hs2 q2
    exact ⟨e1, e2⟩
  have hlen := hits.len
  have hcs : ItsA L its (l.flatMap Prod.fst) := by
    have key : ∀ {l0 : List (List Value × DataW H)} {its : List It}, Two (fun (x : List Value × DataW H) (it : It) => x ∈ l ∧ ∃ a, x.1 = [.int .i64 it.no, str it.word, a] ∧ SV 1 L a it.args.length (strs it.args) ∧ (SmallU x.2 → it.word.length ≤ 1048576 ∧ it.args.length ≤ 1048576 ∧ ∀ a, a ∈ it.args → a.length ≤ 1048576)) l0 its → ItsA L its (l0.flatMap Prod.fst) := fun h => by
      induction h with
      | nil => rfl
      | cons h _ ih =>
        obtain ⟨_, a, e1, e2, _⟩ := h
        exact ⟨a, _, by rw [List.flatMap_cons, e1]; rfl, e2, ih⟩
    exact key hits
  have hc3 : Tryz.prog.cellsOf 110 = 3 := by kernel_rfl
  rw [hc3] at hr
  refine ⟨v, its, _, rfl, by rw [hlen]; exact hr.sv, hcs, fun hsm => ?_⟩
  obtain ⟨q1, q2⟩ := hz hsm
  refine ⟨by rw [hlen]; exact q1, fun it hit => ?_⟩
  obtain ⟨x, hx, hxl, a, _, _, hb⟩ := hits.back it hit
  exact hb (q2 x hx)
theorem here_usecs (h : Here Tryz.prog L (n + 7) 31 cs d) : ∃ v ss scs, cs = [v] ∧ SV 4 L v ss.length scs ∧ SecsA L ss scs ∧ (SmallU d → ss.length ≤ 1048576 ∧ ∀ y, y ∈ ss → y.name.length ≤ 1048576 ∧ ItsU y.items) := by
  obtain ⟨v, l, rfl, hr, hz, hall⟩ := ulist Tryz.underlying31 h
  obtain ⟨ss, hss⟩ := Two.pick (R := fun (x : List Value × DataW H) (y : Se) => ∃ iv ics, x.1 = secC y.no y.kind y.name iv ∧ (SV 3 L iv y.items.length ics ∧ ItsA L y.items ics) ∧ (SmallU x.2 → y.name.length ≤ 1048576 ∧ ItsU y.items)) l fun x hx => by
    obtain ⟨c0, d0, c1, d1, c2, d2, c3, d3, hcs, hs, h0, h1, h2, h3⟩ := ufour Tryz.underlying100 (hall x hx).2
    obtain ⟨m, rfl, _⟩ := Here.int Tryz.underlying3 h0
    obtain ⟨k, rfl⟩ := Here.byte Tryz.underlying5 h1
    obtain ⟨s, rfl, hs1⟩ := utext Tryz.underlying9 h2
    obtain ⟨iv, its, ics, rfl, hi1, hi2, hi3⟩ := here_uitems h3
    refine ⟨⟨m, k, s, its⟩, iv, ics, by rw [hcs]; rfl, ⟨hi1, hi2⟩, fun hsm => ?_⟩
    obtain ⟨q0, q1, q2, q3⟩ := hs hsm
    have e1 := hs1 q2
    exact ⟨e1, hi3 q3⟩
  have hlen := hss.len
  have hcs : SecsA L ss (l.flatMap Prod.fst) := by
    clear hr hz hall hlen
    induction hss with
    | nil => rfl
    | cons h _ ih =>
      obtain ⟨iv, ics, e1, e2, _⟩ := h
      exact ⟨iv, ics, _, by rw [List.flatMap_cons, e1], e2, ih⟩
  have hc4 : Tryz.prog.cellsOf 100 = 4 := by kernel_rfl
  rw [hc4] at hr
  refine ⟨v, ss, _, rfl, by rw [hlen]; exact hr.sv, hcs, fun hsm => ?_⟩
  obtain ⟨q1, q2⟩ := hz hsm
  refine ⟨by rw [hlen]; exact q1, fun y hy => ?_⟩
  obtain ⟨x, hx, iv, ics, _, _, hb⟩ := hss.back y hy
  exact hb (q2 x hx)
theorem here_udoc (h : Here Tryz.prog L (n + 8) 33 cs d) (hz : SmallU d) : ∃ hv sv D, cs = [hv, sv] ∧ DocA L (.agg #[hv, sv]) D ∧ DocU D := by
  obtain ⟨c0, d0, c1, d1, rfl, hs, h0, h1⟩ := utwo Tryz.underlying33 h
  obtain ⟨q0, q1⟩ := hs hz
  obtain ⟨hv, its, ics, rfl, i1, i2, i3⟩ := here_uitems h0
  obtain ⟨sv, ss, scs, rfl, j1, j2, j3⟩ := here_usecs h1
  exact ⟨hv, sv, ⟨its, ss⟩, rfl, ⟨hv, sv, ics, scs, rfl, i1, i2, j1, j2⟩, i3 q0, j3 q1⟩
end
end Go.Proofs.YtllcbjaajffaeaaGreatDoor.U
