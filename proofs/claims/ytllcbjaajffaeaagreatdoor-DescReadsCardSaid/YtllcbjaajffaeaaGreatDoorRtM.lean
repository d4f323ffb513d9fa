import Derived.Test.YtllcbjaajffaeaaGreatDoorRnM
import Derived.Test.YtllcbjaajffaeaaGreatDoorWlM
namespace Go.Proofs.YtllcbjaajffaeaaGreatDoor
open Go.Am Go.Pd
set_option linter.unusedVariables false
set_option maxRecDepth 20000
set_option maxHeartbeats 4000000
attribute [local irreducible] OS LSr ODS CS YS
theorem joined_bound {ws : List W} {t : W} (h : joinW ws = some t) : ws.length ≤ t.length ∧ ∀ w, w ∈ ws → w.length ≤ t.length := splitW_bound (joined_split h)
def begOf (w : W) : Nat := match tabOf w with
  | some t => t.b
  | none => 0
def szD (d : Dc) : Nat := d.head.length + (d.secs.map fun s => 1 + s.items.length).sum
theorem sz_add (d : Dc) (x : It) : szD (d.add x) = szD d + 1 := by
  unfold Dc.add
  cases h : d.secs.getLast? with
  | none =>
    have h2 : d.secs = [] := List.getLast?_eq_none_iff.1 h
    simp [szD, h2]
  | some s =>
    obtain ⟨l, hl⟩ := List.getLast?_eq_some_iff.1 h
    simp [szD, hl]; omega
theorem sz_line {d d' : Dc} {no : Int} {w : W} {a : List W} (h : LN d no w a = .ok d') : szD d' = szD d + 1 := by
  unfold LN line at h
  repeat' split at h
  all_goals cases h
  · simp [szD]; omega
  · exact sz_add ..
theorem sz_le {d : Dc} (h : DcOk d) : szD d ≤ 2008 := by
  have key : ∀ l : List Se, (∀ s, s ∈ l → s.items.length ≤ 40) → (l.map fun s => 1 + s.items.length).sum ≤ 41 * l.length := by
    intro l
    induction l with
    | nil => intro _; simp
    | cons x l ih =>
      intro hl
      have h1 := hl x (by simp)
      have h2 := ih fun s hs => hl s (by simp [hs])
      simp only [List.map_cons, List.sum_cons, List.length_cons]; omega
  have h1 := key d.secs h.items
  have h2 := h.secs; have h3 := h.c1; have h4 := h.c2; have h5 := h.head
  unfold szD; omega
def lineP (d : Dc) (bs ahead : W) (begins : Nat) (w : W) (a : List W) : Except Nat (Dc × W) := match joinW (w :: a) with
  | none => .error 40
  | some t => if 400 < ahead.length + t.length then .error 40 else if begOf w ≠ begins then .error 4 else match LN d 0 w a with
    | .error e => .error e
    | .ok d' => .ok (d', bs ++ (ahead ++ t ++ [10]))
section
variable {F L Y B : RL} {rp rd : Nat} {d : Dc} {bs : W}
def DX (rd : Nat) (d : Dc) (Y B C : RL) : Prop := ∀ F', (∀ p, p ∈ B → p ∈ F') → DS rd d Y B F' (C ++ F')
theorem DS.dx (h : DS rd d Y B F L) : ∃ C, L = C ++ F ∧ DX rd d Y B C := h.split
theorem DX.row {C : RL} (h : DX rd d Y B C) (x : Nat × ARow) : ∃ C', DX rd d (x :: Y) B C' ∧ ∀ G, Sub (C' ++ G) (x :: (C ++ G)) := by
  obtain ⟨rr, rc, rs, es, ck, ec, kc, em, km, hv, sv, HY, SY, IY, fc, fm, hC, hBF, hok, hR, hCn, hM, hD⟩ := (h B fun p hp => hp).ex
  have hC : C = (rd, dRow hv sv rr rc rs) :: (rr, .map es ck) :: (rc, .map ec kc) :: (rs, .map em km) :: (HY ++ (SY ++ (IY ++ Y))) := List.append_cancel_right (bs := B) (by rw [hC]; simp)
  subst hC
  refine ⟨(rd, dRow hv sv rr rc rs) :: (rr, .map es ck) :: (rc, .map ec kc) :: (rs, .map em km) :: (HY ++ (SY ++ (IY ++ (x :: Y)))), fun F' hB => ⟨rr, rc, rs, es, ck, ec, kc, em, km, hv, sv, HY, SY, IY, fc, fm, by simp, hB, hok, hR.mono fun p hp => List.mem_cons_of_mem _ hp, hCn, hM, hD.mono fun p hp => List.mem_cons_of_mem _ hp⟩, fun G => Sub.sums fun f => by simp <;> omega⟩
def PS (rp rd : Nat) (d : Dc) (Y B : RL) (bs : W) (F L : RL) : Prop := ∃ C, DX rd d Y B C ∧ BP rp rd bs (C ++ F) L ∧ bs.length ≤ 410 * szD d
def ResP (rp rd : Nat) (B F : RL) (e : Except Nat (Dc × W)) (v : Value) (L' : RL) : Prop := match e with
  | .error k => v = errV k ∧ k ≠ 0 ∧ Ends F L'
  | .ok (d', bs') => v = .nilIface ∧ ∃ Y', PS rp rd d' Y' B bs' F L'
theorem BP.rows {rp rd : Nat} {bs : W} {F L : RL} (h : BP rp rd bs F L) : ∃ p v K, Sub ((rp, pRow p v rd) :: (K ++ F)) L ∧ ∀ G, ∃ L', BP rp rd bs G L' ∧ Sub L' ((rp, pRow p v rd) :: (K ++ G)) := by
  rcases h with ⟨rfl, rfl⟩ | ⟨h0, r, rfl⟩
  · exact ⟨_, _, [], Sub.sums fun f => rfl, fun G => ⟨_, .inl ⟨rfl, rfl⟩, Sub.sums fun f => rfl⟩⟩
  · exact ⟨ptr rp, .slice (some ⟨r, 0, none⟩) bs.length openCap, [(r, .cells 5 (byteCells bs))], Sub.sums fun f => by simp <;> omega, fun G => ⟨_, .inr ⟨h0, r, rfl⟩, Sub.sums fun f => by simp <;> omega⟩⟩
theorem linep_ct {ahead : W} {begins : Nat} {w : W} {a : List W} {lv : Value} (h : PS rp rd d Y B bs F L) (hBF : ∀ p, p ∈ B → p ∈ F) (hlv : Wd (Y ++ B) lv (w :: a)) (hal : ahead.length ≤ 2) (hws : (w :: a).length ≤ 9000000000000000) (hw : ∀ x, x ∈ w :: a → x.length ≤ 9000000000000000) :
    CS Tryz.prog 109 [ptr rp, str ahead, lv, .int .u8 (begins : Nat)] L fun v L' => ResP rp rd B F (lineP d bs ahead begins w a) v L' := by
  obtain ⟨C, hC, hB, hbd⟩ := h
  have hC0 := hC
  obtain ⟨rr, rc, rs, es, ck, ec, kc, em, km, hv, sv, HY, SY, IY, fc, fm, hCe, _, hok, hR, hCn, hM, hD⟩ := (hC B fun p hp => hp).ex
  have hCe : C = (rd, dRow hv sv rr rc rs) :: (rr, .map es ck) :: (rc, .map ec kc) :: (rs, .map em km) :: (HY ++ (SY ++ (IY ++ Y))) := List.append_cancel_right (bs := B) (by rw [hCe]; simp)
  subst hCe
  have hbs := sz_le hok
  obtain ⟨p, v, K, hs1, hs2⟩ := hB.rows
  have hYB : ∀ q, q ∈ Y ++ B → q ∈ (rp, pRow p v rd) :: (rd, dRow hv sv rr rc rs) :: (rr, ARow.map es ck) :: (rc, .map ec kc) :: (rs, .map em km) :: (HY ++ (SY ++ (IY ++ (Y ++ (K ++ F))))) := fun q hq => by
    rcases List.mem_append.1 hq with h | h
    · simp [h]
    · simp [hBF q h]
  have hlvM := hlv.mono hYB
  have hlvf := hlv.form
  obtain ⟨lvA, lvc, rfl⟩ := hlvf
  refine CS.sub (Sub.trans (Sub.sums (B := (rp, pRow p v rd) :: (K ++ (((rd, dRow hv sv rr rc rs) :: (rr, ARow.map es ck) :: (rc, .map ec kc) :: (rs, .map em km) :: (HY ++ (SY ++ (IY ++ Y)))) ++ F))) (A := (rp, pRow p v rd) :: (rd, dRow hv sv rr rc rs) :: (rr, ARow.map es ck) :: (rc, .map ec kc) :: (rs, .map em km) :: (HY ++ (SY ++ (IY ++ (Y ++ (K ++ F)))))) fun f => by simp <;> omega) hs1) ?_
  have hend : ∀ x, Ends F (x :: (rd, dRow hv sv rr rc rs) :: (rr, ARow.map es ck) :: (rc, .map ec kc) :: (rs, .map em km) :: (HY ++ (SY ++ (IY ++ (Y ++ (K ++ F)))))) := fun x => by repeat (first | exact Ends.nil | apply Ends.cons | apply Ends.app)
  refine CS.mk (fn := Tryz.f109) rfl rfl rfl rfl ?_
  refine yG ?_
  refine OS.call noGo rfl (fun _ => rfl) ((Join_ct hlvM.sv hws hw).mono ?_)
  rintro u L' ⟨rfl, rfl⟩
  unfold lineP joinV
  cases hj : joinW (w :: a) with
  | none =>
    refine ⟨_, rfl, ?_⟩
    refine yG ?_
    exact ⟨rfl, by decide, hend _⟩
  | some t =>
    have htl := (joinW_eq hj).2
    have hjb := joined_bound hj
    by_cases h400 : 400 < ahead.length + t.length
    · have hb : (!ileB ((ahead.length + t.length : Nat) : Int) 400) = true := by rw [ileB_eq]; simp; omega
      refine ⟨_, rfl, ?_⟩
      refine yG ?_
      show ResP rp rd B F (if 400 < ahead.length + t.length then _ else _) _ _
      rw [if_pos h400]
      exact ⟨rfl, by decide, hend _⟩
    have hb : (!ileB ((ahead.length + t.length : Nat) : Int) 400) = false := by rw [ileB_eq]; simp; omega
    have hE : ∀ v L', ResP rp rd B F (if begOf w ≠ begins then Except.error 4 else match LN d 0 w a with | .error e => .error e | .ok d' => .ok (d', bs ++ (ahead ++ t ++ [10]))) v L' → ResP rp rd B F (if 400 < ahead.length + t.length then Except.error 40 else if begOf w ≠ begins then Except.error 4 else match LN d 0 w a with | .error e => .error e | .ok d' => .ok (d', bs ++ (ahead ++ t ++ [10]))) v L' := fun v L' h => by rw [if_neg h400]; exact h
    obtain ⟨fv, hf', hfb⟩ : ∃ fv : Value, (match findB (str w) es 0 with | some (some (_, v)) => some (okTuple false v true) | some none => (match zeroVB Tryz.prog 258 with | some z => some (okTuple false z false) | none => none) | none => none) = some fv ∧ ∃ x1 x2 x3 x4 x5, fv = .agg #[.int .u8 ((begOf w : Nat) : Int), x1, x2, x3, x4, x5] := by
      unfold begOf
      rcases hR.find w with ⟨ht, hf⟩ | ⟨tb, j, f, cap, ht, hf, _⟩
      · rw [ht, hf]
        exact ⟨.agg #[.int .u8 0, .int .u8 0, .int .i64 0, .int .i64 0, .nilFunc, .int .i64 0], by kernel_rfl, _, _, _, _, _, rfl⟩
      · rw [ht, hf]
        exact ⟨_, rfl, _, _, _, _, _, rfl⟩
    obtain ⟨x1, x2, x3, x4, x5, rfl⟩ := hfb
    refine ⟨_, rfl, ?_⟩
    refine yG ?_
    repeat refine LS.seq ?_
    refine LS.drawn noGo mixed [(0, false), (1, false), (2, false), (3, false), (4, false), (5, false), (6, false), (7, false), (8, false), (9, false), (10, false), (11, false), (12, false), (13, false)] rfl rfl (by kernel_rfl) ?_
    refine yG ?_
    refine ODS.at1 (j := 0) (hlvM.sv) (strs_get (ws := w :: a) (j := 0) rfl) rfl rfl rfl rfl rfl rfl rfl (fun ra0 oa0 rowa0 csa0 ma0 ca0 ga0 => ⟨_, rfl, ?_⟩)
    refine ODS.read rfl rfl (e_loadm ma0 ca0 rfl rfl (part_one rfl ga0)) rfl ?_
    refine ODS.read rfl rfl (e_lookup 2 rfl rfl rfl rfl (by kernel_rfl) rfl hf') rfl ?_
    by_cases hbe : begOf w = begins
    rotate_left
    · have hb2 : (!ieqB ((begOf w : Nat) : Int) (begins : Nat)) = true := by rw [ieqB_eq]; simp; omega
      refine yG ?_
      refine hE _ _ ?_
      rw [if_pos hbe]
      exact ⟨rfl, by decide, hend _⟩
    have hb2 : (!ieqB ((begOf w : Nat) : Int) (begins : Nat)) = false := by rw [ieqB_eq, hbe]; simp
    have hE : ∀ v L', ResP rp rd B F (match LN d 0 w a with | .error e => .error e | .ok d' => .ok (d', bs ++ (ahead ++ t ++ [10]))) v L' → ResP rp rd B F (if 400 < ahead.length + t.length then Except.error 40 else if begOf w ≠ begins then Except.error 4 else match LN d 0 w a with | .error e => .error e | .ok d' => .ok (d', bs ++ (ahead ++ t ++ [10]))) v L' := fun v L' h => hE v L' (by rw [if_neg (by simp [hbe])]; exact h)
    refine yG ?_
    refine OS.sub (Sub.sums (A := ((rd, dRow hv sv rr rc rs) :: (rr, ARow.map es ck) :: (rc, .map ec kc) :: (rs, .map em km) :: (HY ++ (SY ++ (IY ++ Y)))) ++ ((rp, pRow p v rd) :: (K ++ F))) fun f => by simp <;> omega) ?_
    refine OS.call noGo rfl (fun _ => rfl) ((take_ct (hC ((rp, pRow p v rd) :: (K ++ F)) fun q hq => by simp [hBF q hq]) hlv (by simp at hjb; omega) (fun x hx => by have := hjb.2 x hx; omega)).mono ?_)
    rintro u L' hres
    refine ⟨_, rfl, ?_⟩
    cases he : LN d 0 w a with
    | error e =>
      rw [he] at hres hE
      obtain ⟨rfl, hne, Z, rfl⟩ := hres
      rw [errV_ne hne]
      unfold eV
      refine yG ?_
      refine hE _ _ ⟨(errV_ne hne).symm, hne, ?_⟩
      exact (by repeat (first | exact Ends.nil | apply Ends.cons | apply Ends.app))
    | ok d' =>
      rw [he] at hres hE
      obtain ⟨rfl, Y', hD'⟩ := hres
      obtain ⟨C', rfl, hC'⟩ := hD'.dx
      obtain ⟨L₂, hB2, hs3⟩ := hs2 (C' ++ F)
      refine OS.sub (Sub.trans hs3 (Sub.sums (B := C' ++ ((rp, pRow p v rd) :: (K ++ F))) fun f => by simp <;> omega)) ?_
      refine yG ?_
      refine OS.pure rfl (e_cat rfl rfl rfl (by omega)) rfl ?_
      refine OS.pure rfl (e_cat rfl rfl rfl (by simp; omega)) rfl ?_
      refine OS.call noGo rfl (fun _ => rfl) ((WriteP_ct (ahead ++ t ++ [10]) (by simp) hB2 (by simp; omega)).mono ?_)
      rintro u L' ⟨rfl, hB3⟩
      refine ⟨_, rfl, ?_⟩
      refine yG ?_
      exact hE _ _ ⟨rfl, Y', C', hC', hB3, by rw [sz_line he]; simp; omega⟩
end
end Go.Proofs.YtllcbjaajffaeaaGreatDoor
namespace Go.Proofs.YtllcbjaajffaeaaGreatDoor
open Go.Am Go.Pd
set_option linter.unusedVariables false
set_option maxRecDepth 20000
set_option maxHeartbeats 4000000
attribute [local irreducible] OS LSr ODS CS YS
theorem strs_one : ∀ ws : List (List UInt8), allOne (strs ws) = true
  | [] => rfl
  | w :: ws => by simp only [strs, List.map_cons, allOne]; exact strs_one ws
def itemsP (d : Dc) (bs ahead : W) : List It → Except Nat (Dc × W)
  | [] => .ok (d, bs)
  | x :: r => match lineP d bs ahead 0 x.word x.args with
    | .error e => .error e
    | .ok (d', bs') => itemsP d' bs' ahead r
theorem ItsR.at {M : RL} : ∀ {l : List It} {cs : List Value} {j : Nat} {x : It}, ItsR M l cs → l[j]? = some x → ∃ av, cut cs (j * 3) 3 = some [.int .i64 x.no, str x.word, av] ∧ Wd M av x.args
  | [], _, _, _, _, h => by simp at h
  | y :: r, cs, 0, x, ⟨a, cs', h1, h2, h3⟩, h => by
    simp at h; subst h
    refine ⟨a, ?_, h2⟩
    rw [h1]; cases cs' <;> rfl
  | y :: r, cs, j + 1, x, ⟨a, cs', h1, h2, h3⟩, h => by
    obtain ⟨av, h4, h5⟩ := ItsR.at (j := j) h3 (by simpa using h)
    refine ⟨av, ?_, h5⟩
    rw [h1, show (j + 1) * 3 = j * 3 + 1 + 1 + 1 by omega]
    exact h4
section
variable {F L Y B : RL} {rp rd : Nat} {d : Dc} {bs : W}
theorem BP.swap {rp rd : Nat} (h : BP rp rd bs F L) : ∃ K, L = K ++ F ∧ ∀ G, BP rp rd bs G (K ++ G) := by
  rcases h with ⟨rfl, rfl⟩ | ⟨h0, r, rfl⟩
  · exact ⟨[(rp, pRow (.pointer none) (.slice none 0 0) rd)], rfl, fun G => .inl ⟨rfl, rfl⟩⟩
  · exact ⟨[(r, .cells 5 (byteCells bs)), (rp, pRow (ptr rp) (.slice (some ⟨r, 0, none⟩) bs.length openCap) rd)], rfl, fun G => .inr ⟨h0, r, rfl⟩⟩
def PX (rp rd : Nat) (d : Dc) (Y B : RL) (bs : W) (K : RL) : Prop := ∀ G, PS rp rd d Y B bs G (K ++ G)
theorem PS.px (h : PS rp rd d Y B bs F L) : ∃ K, L = K ++ F ∧ PX rp rd d Y B bs K := by
  obtain ⟨C, hC, hB, hbd⟩ := h
  obtain ⟨K, rfl, hK⟩ := hB.swap
  exact ⟨K ++ C, by simp, fun G => ⟨C, hC, by rw [List.append_assoc]; exact hK _, hbd⟩⟩
theorem Sub.both {K A A' : RL} (h : Sub A A') : Sub (K ++ A) (K ++ A') := by
  obtain ⟨M, p⟩ := h
  exact ⟨M, by rw [List.append_assoc]; exact p.append_left K⟩
theorem PX.row {K : RL} (h : PX rp rd d Y B bs K) (x : Nat × ARow) : ∃ K', PX rp rd d (x :: Y) B bs K' ∧ ∀ G, Sub (K' ++ G) (x :: (K ++ G)) := by
  obtain ⟨C, hC, hB, hbd⟩ := h []
  obtain ⟨C', hC', hs⟩ := hC.row x
  obtain ⟨K₁, hK, hK₁⟩ := hB.swap
  have hK : K = K₁ ++ C := by simpa using hK
  subst hK
  refine ⟨K₁ ++ C', fun G => ⟨C', hC', by rw [List.append_assoc]; exact hK₁ _, hbd⟩, fun G => ?_⟩
  rw [List.append_assoc]
  exact Sub.trans (Sub.both (hs G)) (Sub.sums fun f => by simp <;> omega)
theorem items_ct {ahead : W} {items : List It} {cs : List Value} {lv : Value} {M : RL} (h : PS rp rd d Y B bs F L) (hBF : ∀ p, p ∈ B → p ∈ F) (hM : ∀ p, p ∈ M → p ∈ F) (hlv : SV 3 M lv items.length cs) (hI : ItsR M items cs) (hal : ahead.length ≤ 2) (hn : items.length ≤ 9000000000000000) (hw : ∀ x, x ∈ items → (x.word :: x.args).length ≤ 8796093022208 ∧ ∀ w, w ∈ x.word :: x.args → w.length ≤ 9000000000000000) :
    CS Tryz.prog 78 [ptr rp, str ahead, lv] L fun v L' => ResP rp rd B F (itemsP d bs ahead items) v L' := by
  obtain ⟨K₀, rfl, hK₀⟩ := h.px
  obtain ⟨lvA, lvc, rfl⟩ := hlv.form
  suffices h2 : CS Tryz.prog 78 [ptr rp, str ahead, .slice lvA items.length lvc] (K₀ ++ F) fun v L' => ∃ L₁, Sub L₁ L' ∧ ResP rp rd B F (itemsP d bs ahead items) v L₁ from h2.less fun v L' h => h
  refine CS.mk (fn := Tryz.f78) rfl rfl rfl rfl ?_
  refine yG ?_
  refine LS.loopJ [0, 1, 6, 10, 11, 12] (fun q a L' => ∃ j d1 bs1 Y1 K, q = items.length - j ∧ j ≤ items.length ∧ itemsP d bs ahead items = itemsP d1 bs1 ahead (items.drop j) ∧ PX rp rd d1 Y1 B bs1 K ∧ L' = K ++ F ∧
    a = [ptr rp, str ahead, .chan none, .chan none, .chan none, .chan none, .nilIface, .chan none, .chan none, .chan none, .slice lvA items.length lvc, .int .i64 (items.length : Nat), .int .i64 (j : Nat), .chan none, .chan none, .chan none, .chan none, .chan none, .chan none, .chan none, .chan none, .chan none, .chan none, .chan none, .chan none, .chan none, .chan none, .chan none, .chan none]) (n := items.length) rfl ⟨0, d, bs, Y, K₀, rfl, Nat.zero_le _, rfl, hK₀, rfl, rfl⟩ ?_
  rintro q a L' ⟨j, d1, bs1, Y1, K, rfl, hj, hE, hK, rfl, rfl⟩
  by_cases hjn : j < items.length
  · have hb : (!ileB ((items.length : Nat) : Int) (j : Nat)) = true := by rw [ileB_eq]; simp; omega
    have hx : items[j]? = some items[j] := List.getElem?_eq_getElem hjn
    generalize hxe : items[j] = x at hx
    have hxm : x ∈ items := List.mem_of_getElem? hx
    obtain ⟨av, hcut, hav⟩ := hI.at hx
    obtain ⟨avA, avc, rfl⟩ := hav.form
    rw [List.drop_eq_getElem_cons hjn, hxe, itemsP] at hE
    have hxw := hw x hxm
    have hxl := hxw.1
    simp only [List.length_cons] at hxl
    refine yG ?_
    refine OS.at (j := j) (hlv.up fun q hq => List.mem_append_right _ (hM q hq)) hjn rfl rfl rfl rfl rfl rfl (fun r0 o0 row0 cs0 m0 c0 g0 k0 => ?_)
    refine ⟨_, rfl, ?_⟩
    refine OS.read rfl (e_loadm m0 c0 rfl rfl (part_agg rfl rfl (k0 _ hcut))) rfl ?_
    refine OS.fresh rfl (e_new (fun _ => rfl) rfl) (fun _ => rfl) (fun r8 => ?_)
    show OS _ _ _ _ ((r8, ARow.cells 70 [.int .i64 0, str [], .slice none 0 0]) :: _) _
    refine yG ?_
    refine OS.fresh rfl (e_new (fun _ => rfl) rfl) (fun _ => rfl) (fun rl => ?_)
    refine OS.opened 20 0 (sz := 1) rfl rfl rfl (by simp) (by decide) rfl ?_
    refine yG ?_
    refine OS.fresh rfl (e_appendSV 0 (sz := 1) (bts := 16) (old := [str x.word]) ((hav.sv.up fun q hq => List.mem_append_right _ (hM q hq)).cons.cons) (strs_one _) rfl rfl rfl (by omega) (by omega) rfl rfl rfl) (fun _ => rfl) (fun rI => ?_)
    refine OS.sub (Sub.drop 1 rfl) ?_
    obtain ⟨K', hK', hs'⟩ := hK.row (rI, .cells 9 (strs (x.word :: x.args)))
    refine OS.sub (hs' F) ?_
    rw [show 1 + x.args.length = (x.word :: x.args).length by simp; omega]
    refine OS.call noGo rfl (fun _ => rfl) ((linep_ct (begins := 0) (hK' F) hBF (.inr ⟨rI, 0, openCap, _, strs (x.word :: x.args), rfl, List.mem_cons_self .., rfl, cut_all (by simp [strs]), .inl ⟨rfl, rfl, allS_strs _⟩⟩) hal (by omega) hxw.2).mono ?_)
    intro v L' hres
    refine ⟨_, rfl, ?_⟩
    cases he : lineP d1 bs1 ahead 0 x.word x.args with
    | error e =>
      rw [he] at hres hE
      obtain ⟨rfl, hne, hend⟩ := hres
      rw [errV_ne hne]
      unfold eV
      refine yG ?_
      exact ⟨L', Sub.drops 0 rfl, by rw [hE]; exact ⟨(errV_ne hne).symm, hne, hend⟩⟩
    | ok p =>
      obtain ⟨d2, bs2⟩ := p
      rw [he] at hres hE
      obtain ⟨rfl, Y2, hS2⟩ := hres
      obtain ⟨K2, rfl, hK2⟩ := hS2.px
      refine yG ?_
      exact ⟨items.length - (j + 1), by omega, j + 1, d2, bs2, Y2, K2, rfl, by omega, hE, hK2, rfl, rfl⟩
  · have hb : (!ileB ((items.length : Nat) : Int) (j : Nat)) = false := by rw [ileB_eq]; simp; omega
    rw [List.drop_eq_nil_of_le (by omega), itemsP] at hE
    rw [hE]
    refine yG ?_
    refine LS.exit ?_
    refine yG ?_
    exact ⟨K ++ F, Sub.drops 0 rfl, rfl, Y1, hK F⟩
end
end Go.Proofs.YtllcbjaajffaeaaGreatDoor
namespace Go.Proofs.YtllcbjaajffaeaaGreatDoor
open Go.Am Go.Pd
set_option linter.unusedVariables false
set_option maxRecDepth 20000
set_option maxHeartbeats 4000000
attribute [local irreducible] OS LSr ODS CS YS
theorem Ends.tail {x : Nat × ARow} {F L : RL} (h : Ends (x :: F) L) : Ends F L := by obtain ⟨Z, rfl⟩ := h; exact ⟨Z ++ [x], by simp⟩
def wordOfK (k : UInt8) : W := if k = 1 then kTemplate else if k = 2 then kJob else []
theorem u8_is (k m : UInt8) : ieqB ((k.toNat : Nat) : Int) (m.toNat : Nat) = decide (k = m) := by
  rw [ieqB_eq, Bool.eq_iff_iff]
  simp only [decide_eq_true_eq, beq_iff_eq]
  constructor
  · intro h
    have h : k.toNat = m.toNat := by omega
    exact UInt8.toNat_inj.1 h
  · rintro rfl; rfl
theorem wordOf_ct {L : RL} (k : UInt8) : CS Tryz.prog 110 [.int .u8 (k.toNat : Nat)] L fun v L' => v = str (wordOfK k) ∧ L' = L := by
  have h1 : ieqB ((k.toNat : Nat) : Int) 1 = decide (k = 1) := u8_is k 1
  have h2 : ieqB ((k.toNat : Nat) : Int) 2 = decide (k = 2) := u8_is k 2
  unfold wordOfK
  refine CS.mk (fn := Tryz.f110) rfl rfl rfl rfl ?_
  by_cases e1 : k = 1
  · rw [decide_eq_true e1] at h1
    rw [if_pos e1]
    refine yG ?_
    exact ⟨rfl, rfl⟩
  · rw [decide_eq_false e1] at h1
    rw [if_neg e1]
    by_cases e2 : k = 2
    · rw [decide_eq_true e2] at h2
      rw [if_pos e2]
      refine yG ?_
      exact ⟨rfl, rfl⟩
    · rw [decide_eq_false e2] at h2
      rw [if_neg e2]
      refine yG ?_
      exact ⟨rfl, rfl⟩
def secP (d : Dc) (bs : W) (y : Se) : Except Nat (Dc × W) := if wordOfK y.kind = [] then .error 1 else match lineP d bs [] y.kind.toNat (wordOfK y.kind) [y.name] with
  | .error e => .error e
  | .ok (d', bs') => itemsP d' bs' [32, 32] y.items
def secsP (d : Dc) (bs : W) : List Se → Except Nat (Dc × W)
  | [] => .ok (d, bs)
  | y :: r => match secP d bs y with
    | .error e => .error e
    | .ok (d', bs') => secsP d' bs' r
def finP : Except Nat (Dc × W) → Except Nat W
  | .error e => .error e
  | .ok p => .ok p.2
def printP (D : Dc) : Except Nat W := match itemsP ⟨[], []⟩ [] [] D.head with
  | .error e => .error e
  | .ok (d, bs) => finP (secsP d bs D.secs)
def PostW (F : RL) (e : Except Nat W) (v : Value) (L' : RL) : Prop := (match e with
  | .error k => v = .tuple #[str [], errV k] ∧ k ≠ 0
  | .ok s => v = .tuple #[str s, .nilIface]) ∧ Ends F L'
def ItsB (l : List It) : Prop := l.length ≤ 9000000000000000 ∧ ∀ x, x ∈ l → (x.word :: x.args).length ≤ 8796093022208 ∧ ∀ w, w ∈ x.word :: x.args → w.length ≤ 9000000000000000
section
variable {F L Y B : RL} {rp rd : Nat} {d : Dc} {bs : W}
theorem secp_ct {y : Se} {iv : Value} {ics : List Value} {M : RL} (h : PS rp rd d Y B bs F L) (hBF : ∀ p, p ∈ B → p ∈ F) (hM : ∀ p, p ∈ M → p ∈ F) (hlv : SV 3 M iv y.items.length ics) (hI : ItsR M y.items ics) (hB : ItsB y.items) (hnl : y.name.length ≤ 9000000000000000) :
    CS Tryz.prog 79 [ptr rp, .agg ⟨secC y.no y.kind y.name iv⟩] L fun v L' => ResP rp rd B F (secP d bs y) v L' := by
  obtain ⟨K, rfl, hK⟩ := h.px
  obtain ⟨ivA, ivc, rfl⟩ := hlv.form
  suffices h2 : CS Tryz.prog 79 [ptr rp, .agg ⟨secC y.no y.kind y.name (.slice ivA y.items.length ivc)⟩] (K ++ F) fun v L' => ∃ L₁, Sub L₁ L' ∧ ResP rp rd B F (secP d bs y) v L₁ from h2.less fun v L' h => h
  refine CS.mk (fn := Tryz.f79) rfl rfl rfl rfl ?_
  refine yG ?_
  refine OS.fresh rfl (e_new (fun _ => rfl) rfl) (fun _ => rfl) (fun r3 => ?_)
  show OS _ _ _ _ ((r3, ARow.cells tS (secC y.no y.kind y.name (.slice ivA y.items.length ivc))) :: _) _
  refine yG ?_
  refine OS.call noGo rfl (fun _ => rfl) ((wordOf_ct y.kind).mono ?_)
  rintro v L' ⟨rfl, rfl⟩
  unfold secP
  by_cases hw0 : wordOfK y.kind = []
  · rw [if_pos hw0, hw0]
    refine ⟨_, rfl, ?_⟩
    refine yG ?_
    exact ⟨_, Sub.drops 1 rfl, rfl, by decide, K, rfl⟩
  rw [if_neg hw0]
  have hbw : bytesEq (wordOfK y.kind) [] = false := by rw [beq_bytes]; simpa using hw0
  refine ⟨_, rfl, ?_⟩
  refine yG ?_
  refine OS.fresh rfl (e_new (fun _ => rfl) rfl) (fun _ => rfl) (fun rl => ?_)
  refine OS.opened 17 0 (sz := 1) rfl rfl rfl (by simp) (by decide) rfl ?_
  refine yG ?_
  obtain ⟨K', hK', hs'⟩ := hK.row (rl, .cells 9 (strs [wordOfK y.kind, y.name]))
  have hwl : (wordOfK y.kind).length ≤ 8 := by unfold wordOfK; split; decide; split <;> decide
  refine OS.sub (Sub.trans (hs' ((r3, .cells tS (secC y.no y.kind y.name (.slice ivA y.items.length ivc))) :: F)) (Sub.sums (B := (rl, .cells 9 (strs [wordOfK y.kind, y.name])) :: (r3, .cells tS (secC y.no y.kind y.name (.slice ivA y.items.length ivc))) :: (K ++ F)) fun f => by simp <;> omega)) ?_
  refine OS.call noGo rfl (fun _ => rfl) ((linep_ct (ahead := []) (begins := y.kind.toNat) (w := wordOfK y.kind) (a := [y.name]) (hK' _) (fun q hq => List.mem_cons_of_mem _ (hBF q hq)) (.inr ⟨rl, 0, openCap, _, strs [wordOfK y.kind, y.name], rfl, List.mem_cons_self .., rfl, rfl, .inl ⟨rfl, rfl, allS_strs _⟩⟩) (by simp) (by simp) (fun x hx => by simp at hx; rcases hx with rfl | rfl <;> omega)).mono ?_)
  intro v L' hres
  refine ⟨_, rfl, ?_⟩
  cases he : lineP d bs [] y.kind.toNat (wordOfK y.kind) [y.name] with
  | error e =>
    rw [he] at hres
    obtain ⟨rfl, hne, hend⟩ := hres
    rw [errV_ne hne]
    unfold eV
    refine yG ?_
    exact ⟨L', Sub.drops 0 rfl, (errV_ne hne).symm, hne, hend.tail⟩
  | ok p =>
    obtain ⟨d2, bs2⟩ := p
    rw [he] at hres
    obtain ⟨rfl, Y2, hS2⟩ := hres
    obtain ⟨K2, rfl, hK2⟩ := hS2.px
    refine OS.sub (Sub.sums (A := (r3, .cells tS (secC y.no y.kind y.name (.slice ivA y.items.length ivc))) :: (K2 ++ F)) fun f => by simp <;> omega) ?_
    refine yG ?_
    refine OS.sub (Sub.drop 0 rfl) ?_
    refine OS.call noGo rfl (fun _ => rfl) ((items_ct (ahead := [32, 32]) (hK2 F) hBF hM hlv hI (by simp) hB.1 hB.2).mono ?_)
    intro v L' hres
    refine ⟨_, rfl, ?_⟩
    refine yG ?_
    exact ⟨L', Sub.drops 0 rfl, hres⟩
theorem SecsR.at {M : RL} : ∀ {l : List Se} {cs : List Value} {j : Nat} {y : Se}, SecsR M l cs → l[j]? = some y → ∃ iv ics, cut cs (j * 4) 4 = some (secC y.no y.kind y.name iv) ∧ SV 3 M iv y.items.length ics ∧ ItsR M y.items ics
  | [], _, _, _, _, h => by simp at h
  | z :: r, cs, 0, y, ⟨iv, ics, cs', h1, h2, h3⟩, h => by
    simp at h; subst h
    refine ⟨iv, ics, ?_, h2⟩
    rw [h1]; cases cs' <;> rfl
  | z :: r, cs, j + 1, y, ⟨iv, ics, cs', h1, h2, h3⟩, h => by
    obtain ⟨iv2, ics2, h4, h5⟩ := SecsR.at (j := j) h3 (by simpa using h)
    refine ⟨iv2, ics2, ?_, h5⟩
    rw [h1, show (j + 1) * 4 = j * 4 + 1 + 1 + 1 + 1 by omega]
    exact h4
def DocB (D : Dc) : Prop := ItsB D.head ∧ D.secs.length ≤ 9000000000000000 ∧ ∀ y, y ∈ D.secs → ItsB y.items ∧ y.name.length ≤ 9000000000000000
theorem write_ct {g : Gn} {D : Dc} {v : Value} (hG : GL g F) (hV : DocV F v D) (hB : DocB D) : CS Tryz.prog 46 [v] F fun v L' => PostW F (printP D) v L' := by
  obtain ⟨hv, sv, hcs, scs, rfl, hh, hI, hS, hSR⟩ := hV
  obtain ⟨hA, hc, rfl⟩ := hh.form
  obtain ⟨sA, sc, rfl⟩ := hS.form
  obtain ⟨hb1, hb2, hb3⟩ := hB
  refine CS.mk (fn := Tryz.f46) rfl rfl rfl rfl ?_
  refine yG ?_
  refine OS.fresh rfl (e_new (fun _ => rfl) rfl) (fun _ => rfl) (fun r1 => ?_)
  show OS _ _ _ _ ((r1, ARow.cells tD [.slice hA D.head.length hc, .slice sA D.secs.length sc]) :: _) _
  refine yG ?_
  refine OS.call noGo rfl (fun _ => rfl) ((newDraft_ct (B := F) (hG.mono fun q hq => List.mem_cons_of_mem _ hq) hG (fun q hq => List.mem_cons_of_mem _ hq)).mono ?_)
  rintro v L' ⟨rd, Y, rfl, hD⟩
  obtain ⟨C, rfl, hC⟩ := hD.dx
  refine ⟨_, rfl, ?_⟩
  refine yG ?_
  refine OS.fresh rfl (e_new (fun _ => rfl) rfl) (fun _ => rfl) (fun rp => ?_)
  show OS _ _ _ _ ((rp, ARow.cells 181 [.pointer none, .slice none 0 0, .pointer none]) :: _) _
  refine yG ?_
  have hP : PX rp rd ⟨[], []⟩ Y F [] ((rp, .cells 181 [.pointer none, .slice none 0 0, ptr rd]) :: C) := fun G => ⟨C, hC, .inl ⟨rfl, rfl⟩, by simp⟩
  have hFr : ∀ q, q ∈ F → q ∈ (r1, ARow.cells tD [.slice hA D.head.length hc, .slice sA D.secs.length sc]) :: F := fun q hq => List.mem_cons_of_mem _ hq
  refine OS.sub (Sub.sums (A := (r1, .cells tD [.slice hA D.head.length hc, .slice sA D.secs.length sc]) :: (rp, .cells 181 [.pointer none, .slice none 0 0, ptr rd]) :: (C ++ F)) fun f => by simp <;> omega) ?_
  refine yG ?_
  refine OS.sub (Sub.sums (A := ((rp, .cells 181 [.pointer none, .slice none 0 0, ptr rd]) :: C) ++ ((r1, .cells tD [.slice hA D.head.length hc, .slice sA D.secs.length sc]) :: F)) fun f => by simp <;> omega) ?_
  refine OS.call noGo rfl (fun _ => rfl) ((items_ct (ahead := []) (hP _) hFr hFr hh hI (by simp) hb1.1 hb1.2).mono ?_)
  intro v L' hres
  refine ⟨_, rfl, ?_⟩
  unfold printP
  cases he : itemsP ⟨[], []⟩ [] [] D.head with
  | error e =>
    rw [he] at hres
    obtain ⟨rfl, hne, hend⟩ := hres
    rw [errV_ne hne]
    unfold eV
    refine yG ?_
    exact ⟨⟨by rw [errV_ne hne]; rfl, hne⟩, hend.tail⟩
  | ok p =>
    obtain ⟨d1, bs1⟩ := p
    rw [he] at hres
    obtain ⟨rfl, Y1, hS1⟩ := hres
    obtain ⟨K1, rfl, hK1⟩ := hS1.px
    refine OS.sub (Sub.sums (A := (r1, .cells tD [.slice hA D.head.length hc, .slice sA D.secs.length sc]) :: (K1 ++ F)) fun f => by simp <;> omega) ?_
    refine yG ?_
    refine LS.loopJ [0, 1, 2, 3, 4, 18, 19, 20] (fun q a L' => ∃ j d2 bs2 Y2 K, q = D.secs.length - j ∧ j ≤ D.secs.length ∧ secsP d1 bs1 D.secs = secsP d2 bs2 (D.secs.drop j) ∧ PX rp rd d2 Y2 F bs2 K ∧ L' = (r1, .cells tD [.slice hA D.head.length hc, .slice sA D.secs.length sc]) :: (K ++ F) ∧
      a = [.agg #[.slice hA D.head.length hc, .slice sA D.secs.length sc], ptr r1, str [], .nilIface, ptr rp, .chan none, .chan none, .chan none, .chan none, .chan none, .chan none, .chan none, .chan none, .chan none, .chan none, .chan none, .chan none, .chan none, .slice sA D.secs.length sc, .int .i64 (D.secs.length : Nat), .int .i64 (j : Nat), .chan none, .chan none, .chan none, .chan none, .chan none, .chan none, .chan none, .chan none, .chan none, .chan none, .chan none]) (n := D.secs.length) rfl ⟨0, d1, bs1, Y1, K1, rfl, Nat.zero_le _, rfl, hK1, rfl, rfl⟩ ?_
    rintro q a L' ⟨j, d2, bs2, Y2, K, rfl, hj, hE, hK, rfl, rfl⟩
    by_cases hjn : j < D.secs.length
    · have hb : (!ileB ((D.secs.length : Nat) : Int) (j : Nat)) = true := by rw [ileB_eq]; simp; omega
      have hx : D.secs[j]? = some D.secs[j] := List.getElem?_eq_getElem hjn
      generalize hxe : D.secs[j] = y at hx
      have hxm : y ∈ D.secs := List.mem_of_getElem? hx
      obtain ⟨iv, ics, hcut, hiv, hyI⟩ := hSR.at hx
      obtain ⟨ivA, ivc, rfl⟩ := hiv.form
      rw [List.drop_eq_getElem_cons hjn, hxe, secsP] at hE
      have hyB := hb3 y hxm
      refine yG ?_
      refine OS.at (j := j) (hS.up fun q hq => List.mem_cons_of_mem _ (List.mem_append_right _ hq)) hjn rfl rfl rfl rfl rfl rfl (fun r0 o0 row0 cs0 m0 c0 g0 k0 => ?_)
      refine ⟨_, rfl, ?_⟩
      refine OS.read rfl (e_loadm m0 c0 rfl rfl (part_agg rfl rfl (k0 _ hcut))) rfl ?_
      refine OS.fresh rfl (e_new (fun _ => rfl) rfl) (fun _ => rfl) (fun r7 => ?_)
      show OS _ _ _ _ ((r7, ARow.cells tS [.int .i64 0, .int .u8 0, str [], .slice none 0 0]) :: _) _
      refine yG ?_
      refine OS.sub (Sub.drop 0 rfl) ?_
      refine OS.sub (Sub.sums (A := K ++ ((r1, .cells tD [.slice hA D.head.length hc, .slice sA D.secs.length sc]) :: F)) fun f => by simp <;> omega) ?_
      refine OS.call noGo rfl (fun _ => rfl) ((secp_ct (hK _) hFr hFr hiv hyI hyB.1 hyB.2).mono ?_)
      intro v L' hres
      refine ⟨_, rfl, ?_⟩
      cases he2 : secP d2 bs2 y with
      | error e =>
        rw [he2] at hres hE
        obtain ⟨rfl, hne, hend⟩ := hres
        rw [errV_ne hne]
        unfold eV
        refine yG ?_
        show PostW F (finP (secsP d1 bs1 D.secs)) _ _
        rw [hE]
        exact ⟨⟨by rw [errV_ne hne]; rfl, hne⟩, hend.tail⟩
      | ok p =>
        obtain ⟨d3, bs3⟩ := p
        rw [he2] at hres hE
        obtain ⟨rfl, Y3, hS3⟩ := hres
        obtain ⟨K3, rfl, hK3⟩ := hS3.px
        refine OS.sub (Sub.sums (A := (r1, .cells tD [.slice hA D.head.length hc, .slice sA D.secs.length sc]) :: (K3 ++ F)) fun f => by simp <;> omega) ?_
        refine yG ?_
        exact ⟨D.secs.length - (j + 1), by omega, j + 1, d3, bs3, Y3, K3, rfl, by omega, hE, hK3, rfl, rfl⟩
    · have hb : (!ileB ((D.secs.length : Nat) : Int) (j : Nat)) = false := by rw [ileB_eq]; simp; omega
      rw [List.drop_eq_nil_of_le (by omega), secsP] at hE
      refine yG ?_
      refine LS.exit ?_
      refine yG ?_
      obtain ⟨C2, hC2, hB2, hbd2⟩ := hK F
      obtain ⟨_, _, _, _, _, _, _, _, _, _, _, _, _, _, _, _, _, _, hok, _⟩ := (hC2 F fun q hq => hq).ex
      have hsz := sz_le hok
      refine OS.sub (Sub.drop 0 rfl) ?_
      refine OS.call noGo rfl (fun _ => rfl) ((StringP_ct hB2 (by omega)).mono ?_)
      rintro v L' ⟨rfl, Z, rfl⟩
      refine ⟨_, rfl, ?_⟩
      refine yG ?_
      show PostW F (finP (secsP d1 bs1 D.secs)) _ _
      rw [hE]
      exact ⟨rfl, Z ++ C2, by simp⟩
theorem Print_ct {g : Gn} {D : Dc} {v : Value} (hG : GL g F) (hV : DocV F v D) (hB : DocB D) : CS Tryz.prog 18 [v] F fun v L' => (match printP D with
    | .error k => v = .tuple #[str [], .int .i64 (k : Nat)] ∧ k ≠ 0
    | .ok s => v = .tuple #[str s, .int .i64 0]) ∧ Ends F L' := by
  have hV0 := hV
  obtain ⟨hv, sv, hcs, scs, rfl, hh, hI, hS, hSR⟩ := hV
  obtain ⟨hA, hc, rfl⟩ := hh.form
  obtain ⟨sA, sc, rfl⟩ := hS.form
  refine CS.mk (fn := Tryz.f18) rfl rfl rfl rfl ?_
  refine yG ?_
  refine OS.fresh rfl (e_new (fun _ => rfl) rfl) (fun _ => rfl) (fun r1 => ?_)
  show OS _ _ _ _ ((r1, ARow.cells tD [.slice hA D.head.length hc, .slice sA D.secs.length sc]) :: _) _
  refine yG ?_
  refine OS.call noGo rfl (fun _ => rfl) ((write_ct (hG.mono fun q hq => List.mem_cons_of_mem _ hq) (hV0.mono fun q hq => List.mem_cons_of_mem _ hq) hB).mono ?_)
  rintro u L' ⟨hp, hend⟩
  have hGL : GL g L' := hG.mono fun q hq => by obtain ⟨Z, rfl⟩ := hend; simp [hq]
  cases he : printP D with
  | error k =>
    rw [he] at hp
    obtain ⟨rfl, hne⟩ := hp
    rw [errV_ne hne]
    refine ⟨_, rfl, ?_⟩
    refine yG ?_
    refine OS.call noGo rfl (fun _ => rfl) ((dTold_e hGL).mono ?_)
    rintro v L' ⟨rfl, rfl⟩
    refine ⟨_, rfl, ?_⟩
    refine yG ?_
    exact ⟨⟨rfl, hne⟩, hend.tail⟩
  | ok s =>
    rw [he] at hp
    subst hp
    refine ⟨_, rfl, ?_⟩
    refine yG ?_
    refine OS.call noGo rfl (fun _ => rfl) ((dTold_nil).mono ?_)
    rintro v L' ⟨rfl, rfl⟩
    refine ⟨_, rfl, ?_⟩
    refine yG ?_
    exact ⟨rfl, hend.tail⟩
end
end Go.Proofs.YtllcbjaajffaeaaGreatDoor
namespace Go.Proofs.YtllcbjaajffaeaaGreatDoor
open Go.Am Go.Pd
set_option linter.unusedVariables false
set_option maxRecDepth 20000
set_option maxHeartbeats 4000000
attribute [local irreducible] OS LSr ODS CS YS
abbrev aT : W := [118, 97, 114, 32, 118, 32, 49, 10, 116, 101, 109, 112, 108, 97, 116, 101, 32, 116, 10, 32, 32, 100, 111, 32, 115, 97, 121, 32, 104, 101, 108, 108, 111, 10, 106, 111, 98, 32, 97, 10, 32, 32, 117, 115, 101, 32, 116, 10, 32, 32, 110, 101, 101, 100, 115, 32, 98, 10, 106, 111, 98, 32, 98, 10, 32, 32, 97, 120, 105, 115, 32, 111, 115, 32, 120, 32, 121, 10]
def aD : Dc := ⟨[⟨1, [118, 97, 114], [[118], [49]]⟩], [⟨2, 1, [116], [⟨3, [100, 111], [[115, 97, 121], [104, 101, 108, 108, 111]]⟩]⟩, ⟨4, 2, [97], [⟨5, [117, 115, 101], [[116]]⟩, ⟨6, [110, 101, 101, 100, 115], [[98]]⟩]⟩, ⟨7, 2, [98], [⟨8, [97, 120, 105, 115], [[111, 115], [120], [121]]⟩]⟩]⟩
theorem a_read : readL chk spD 1 ⟨[], []⟩ (segs aT) = .ok aD := by kernel_rfl
theorem a_print : printP aD = .ok aT := by kernel_rfl
theorem a_small : DocB aD := by unfold DocB ItsB; decide
section
variable {F : RL}
theorem awake_ct {g : Gn} (hG : GL g F) : CS Tryz.prog 10 [] F fun v L' => v = .bool true ∧ Ends F L' := by
  refine CS.mk (fn := Tryz.f10) rfl rfl rfl rfl ?_
  refine yG ?_
  refine OS.call noGo rfl (fun _ => rfl) ((Parse_ct hG (s := aT) (by decide)).mono ?_)
  rw [a_read]
  rintro v L' ⟨u, Z, rfl, rfl, hV⟩
  obtain ⟨hv, sv, hcs, scs, rfl, hh, hI, hS, hSR⟩ := hV
  have hV : DocV (Z ++ F) (.agg #[hv, sv]) aD := ⟨hv, sv, hcs, scs, rfl, hh, hI, hS, hSR⟩
  obtain ⟨hA, hc, rfl⟩ := hh.form
  obtain ⟨sA, sc, rfl⟩ := hS.form
  refine ⟨_, rfl, ?_⟩
  refine yG ?_
  refine OS.fresh rfl (e_new (fun _ => rfl) rfl) (fun _ => rfl) (fun r2 => ?_)
  show OS _ _ _ _ ((r2, ARow.cells tD [.slice none 0 0, .slice none 0 0]) :: _) _
  refine yG ?_
  refine OS.call noGo rfl (fun _ => rfl) ((Print_ct (hG.mono fun q hq => by simp [hq]) (hV.mono fun q hq => List.mem_cons_of_mem _ hq) a_small).mono ?_)
  rw [a_print]
  rintro v L' ⟨rfl, Z2, rfl⟩
  obtain ⟨iv, ics, hcut, hiv, hyI⟩ := hSR.at (j := 1) rfl
  obtain ⟨av, hcut2, hav⟩ := hyI.at (j := 1) rfl
  refine ⟨_, rfl, ?_⟩
  refine yG ?_
  refine OS.sub (Sub.sums (A := (r2, .cells tD [.slice hA aD.head.length hc, .slice sA aD.secs.length sc]) :: (Z2 ++ (Z ++ F))) fun f => by simp <;> omega) ?_
  refine yG ?_
  refine OS.at (j := 1) (hS.up fun q hq => by simp only [List.mem_cons, List.mem_append] at hq ⊢; simp [hq]) (by decide) rfl rfl rfl rfl rfl rfl (fun r0 o0 row0 cs0 m0 c0 g0 k0 => ?_)
  refine ⟨_, rfl, ?_⟩
  refine yG ?_
  refine OS.read rfl (e_loadm m0 c0 rfl rfl (part_one rfl (g0 1 (.int .u8 2) (by decide) (cut_get hcut (j := 1) rfl)))) rfl ?_
  refine yG ?_
  refine OS.at (j := 1) (hS.up fun q hq => by simp only [List.mem_cons, List.mem_append] at hq ⊢; simp [hq]) (by decide) rfl rfl rfl rfl rfl rfl (fun r1 o1 row1 cs1 m1 c1 g1 k1 => ?_)
  refine ⟨_, rfl, ?_⟩
  refine yG ?_
  refine OS.read rfl (e_loadm m1 c1 rfl rfl (part_one rfl (g1 3 iv (by decide) (cut_get hcut (j := 3) rfl)))) rfl ?_
  refine yG ?_
  refine OS.at (j := 1) (hiv.up fun q hq => by simp only [List.mem_cons, List.mem_append] at hq ⊢; simp [hq]) (by decide) rfl rfl rfl rfl rfl rfl (fun r3 o3 row3 cs3 m3 c3 g3 k3 => ?_)
  refine ⟨_, rfl, ?_⟩
  refine yG ?_
  refine OS.read rfl (e_loadm m3 c3 rfl rfl (part_one rfl (g3 0 (.int .i64 6) (by decide) (cut_get hcut2 (j := 0) rfl)))) rfl ?_
  refine yG ?_
  refine OS.call noGo rfl (fun _ => rfl) ((Name_ct [97, 45, 49] (by decide)).mono ?_)
  rintro v L' ⟨rfl, rfl⟩
  rw [show Go.Pd.nameB [97, 45, 49] = true by decide]
  refine ⟨_, rfl, ?_⟩
  refine yG ?_
  refine OS.call noGo rfl (fun _ => rfl) ((Path_ct [97, 47, 66, 46, 99] (by decide)).mono ?_)
  rintro v L' ⟨rfl, rfl⟩
  rw [show (decide (([97, 47, 66, 46, 99] : List UInt8).length ≤ 48) && (Go.Pd.cuts 47 [97, 47, 66, 46, 99]).all goodP) = true by decide]
  refine ⟨_, rfl, ?_⟩
  refine yG ?_
  exact ⟨rfl, by repeat (first | exact Ends.nil | apply Ends.cons | apply Ends.app)⟩
end
end Go.Proofs.YtllcbjaajffaeaaGreatDoor
