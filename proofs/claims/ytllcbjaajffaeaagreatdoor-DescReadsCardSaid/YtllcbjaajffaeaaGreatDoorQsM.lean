import Derived.Test.YtllcbjaajffaeaaGreatDoorQb
import Derived.Test.YtllcbjaajffaeaaGreatDoorQc
import Derived.Test.YtllcbjaajffaeaaGreatDoorQf
namespace Go.Proofs.YtllcbjaajffaeaaGreatDoor
set_option linter.unusedSimpArgs false
open Go.Am Go.Pd
set_option linter.unusedVariables false
set_option maxRecDepth 20000
set_option maxHeartbeats 8000000
attribute [local irreducible] OS LSr ODS CS YS
structure RdOk (d : Dc) : Prop where
  ok : DcOk d
  head : AxOk d.head
  secs : ∀ s, s ∈ d.secs → AxOk s.items
theorem RdOk.none : RdOk ⟨[], []⟩ := ⟨⟨by simp, by simp, rfl, by decide, by decide⟩, fun x h => (by cases h), fun s h => (by cases h)⟩
theorem ax_snoc {l : List It} {x : It} (h : AxOk l) (hx : x.word = kAxis → x.args ≠ []) : AxOk (l ++ [x]) := fun y hy => by
  rcases List.mem_append.1 hy with hy | hy
  · exact h y hy
  · simp at hy; subst hy; exact hx
theorem ax_last {d : Dc} (h : RdOk d) : AxOk d.last.2 := by
  unfold Dc.last
  cases hg : d.secs.getLast? with
  | none => exact h.head
  | some s => exact h.secs s (List.mem_of_getLast? hg)
def RS (v : Value) (d : Dc) (Y B F L : RL) : Prop := ∃ hv sv HY SY IY, v = .agg #[hv, sv] ∧ L = HY ++ (SY ++ (IY ++ (Y ++ F))) ∧ (∀ p, p ∈ B → p ∈ F) ∧ RdOk d ∧ DocM tJ tZ (Y ++ B) hv sv d HY SY IY
def ResR (B F : RL) (e : Except Nat Dc) (u : Value) (L' : RL) : Prop := match e with
  | .error k => (∃ A n c A' n' c', u = .tuple #[.agg #[.slice A n c, .slice A' n' c'], .int .i64 (k : Nat)]) ∧ k ≠ 0 ∧ Ends F L'
  | .ok d' => ∃ v' Y', u = .tuple #[v', .int .i64 0] ∧ RS v' d' Y' B F L'
def secE (d : Dc) (no : Int) (w : W) (a : List W) : Except Nat Dc := match a with
  | [n] => if nameB n = false then .error 63 else if (d.secs.any fun s => s.kind == kindOf w && decide (s.name = n)) = true then .error 6 else if 24 ≤ cnt d (kindOf w) then .error 3 else .ok ⟨d.head, d.secs ++ [⟨no, kindOf w, n, []⟩]⟩
  | _ => .error 4
section
variable {F L Y B : RL} {d : Dc}
theorem docD_forms {t t' : TypeId} {M HY SY IY : RL} {hv sv : Value} (h : DocM t t' M hv sv d HY SY IY) : (∃ A n c, hv = .slice A n c) ∧ ∃ A n c, sv = .slice A n c := by
  cases h with
  | none hh hi => exact ⟨by rcases hh with ⟨rfl, _⟩ | ⟨r, rfl, _⟩ <;> exact ⟨_, _, _, rfl⟩, _, _, _, rfl⟩
  | some hh hi hS hg hy => exact ⟨by rcases hh with ⟨rfl, _⟩ | ⟨r, rfl, _⟩ <;> exact ⟨_, _, _, rfl⟩, _, _, _, rfl⟩
theorem docD {t t' : TypeId} {M HY SY IY : RL} {hv sv : Value} (h : DocM t t' M hv sv d HY SY IY) (hm : ∀ p, p ∈ M → p ∈ L) (h1 : ∀ p, p ∈ HY → p ∈ L) (h2 : ∀ p, p ∈ SY → p ∈ L) (h3 : ∀ p, p ∈ IY → p ∈ L) : (∃ hcs, SV 3 L hv d.head.length hcs ∧ ItsR L d.head hcs) ∧ ∃ scs, SV 4 L sv d.secs.length scs ∧ SecsR L d.secs scs := by
  cases h with
  | none hh hi => exact ⟨⟨_, hh.sv.up h1, hi.mono hm⟩, [], .inl ⟨rfl, rfl, rfl⟩, rfl⟩
  | some hh hi hS hg hy =>
    rename_i hd cs S y cs0 ics iv rS
    have hl := hS.len
    have hgs : GV t' 4 [] (.slice (some ⟨rS, 0, none⟩) (S.length + 1) openCap) (S.length + 1) (cs0 ++ secC y.no y.kind y.name iv) ((rS, .cells t' (cs0 ++ secC y.no y.kind y.name iv)) :: []) := .inr ⟨rS, rfl, by simp [hl]; omega, rfl⟩
    exact ⟨⟨_, hh.sv.up h1, hi.mono hm⟩, _, by rw [List.length_append]; exact hgs.sv.up h2, (hS.mono hm).snoc ⟨hg.sv.up h3, hy.mono hm⟩⟩
theorem RdOk.begin {no : Int} {w n : W} (h : RdOk d) (hc : cnt d (kindOf w) < 24) : RdOk ⟨d.head, d.secs ++ [⟨no, kindOf w, n, []⟩]⟩ := ⟨h.ok.begin hc, h.head, fun s hs => by
  rcases List.mem_append.1 hs with hs | hs
  · exact h.secs s hs
  · simp at hs; subst hs; intro x hx; cases hx⟩
theorem any_take {A : Type} {p : A → Bool} {l : List A} {j : Nat} {x : A} (hx : l[j]? = some x) : ((l.take (j + 1)).filter p).length = ((l.take j).filter p).length + if p x then 1 else 0 := by
  rw [Go.Pd.take_one hx, List.filter_append, List.length_append]
  congr 1
  cases h : p x <;> simp [h]
theorem lay_last2 {cs0 : List Value} {n : Nat} {a b c u v : Value} (hl : cs0.length = n * 4) : lay (cs0 ++ [a, b, c, u]) (0 + (n + 1 - 1) * 4 + 3) [v] = some (cs0 ++ [a, b, c, v]) := by
  rw [Nat.zero_add, Nat.add_sub_cancel]; exact lay_last hl
theorem line_ct {no : Int} {w : W} {a : List W} {v lv : Value} (h : RS v d Y B F L) (hlvB : Wd (Y ++ B) lv (w :: a)) (ha : a.length ≤ 400) (hbd : ∀ x, x ∈ w :: a → x.length ≤ 1000) : CS Tryz.prog 42 [v, .int .i64 no, lv] L fun u L' => ResR B F (LN d no w a) u L' := by
  obtain ⟨hv, sv, HY, SY, IY, rfl, rfl, hBF, hok, hD⟩ := h
  have mYB : ∀ p, p ∈ Y ++ B → p ∈ HY ++ (SY ++ (IY ++ (Y ++ F))) := fun p hp => by
    rcases List.mem_append.1 hp with h | h
    · simp [h]
    · simp [hBF p h]
  have hlv := hlvB.mono mYB
  obtain ⟨lA, lc, rfl⟩ := hlv.form
  obtain ⟨⟨hcs, hh, hI⟩, scs, hS, hSR⟩ := docD hD mYB (fun p hp => by simp [hp]) (fun p hp => by simp [hp]) (fun p hp => by simp [hp])
  obtain ⟨⟨hA, hn, hc, rfl⟩, sA, sn, sc, rfl⟩ := docD_forms hD
  have hls := hlv.sv
  have hslen : d.secs.length ≤ 48 := by have h1 := hok.ok.secs; have h2 := hok.ok.c1; have h3 := hok.ok.c2; omega
  suffices h2 : CS Tryz.prog 42 [.agg #[.slice hA hn hc, .slice sA sn sc], .int .i64 no, .slice lA (w :: a).length lc] (HY ++ (SY ++ (IY ++ (Y ++ F)))) fun u L' => ∃ L₁, Sub L₁ L' ∧ ResR B F (LN d no w a) u L₁ from h2.less fun v L' h => h
  have hErr : ∀ k L', k ≠ 0 → LN d no w a = .error k → Ends F L' → ∃ L₁, Sub L₁ L' ∧ ResR B F (LN d no w a) (.tuple #[.agg #[.slice hA hn hc, .slice sA sn sc], .int .i64 (k : Nat)]) L₁ := fun k L' hk he hend => ⟨L', Sub.drops 0 rfl, by rw [he]; exact ⟨⟨_, _, _, _, _, _, rfl⟩, hk, hend⟩⟩
  refine CS.mk (fn := Tryz.f42) rfl rfl rfl rfl ?_
  refine yG ?_
  refine OS.fresh rfl (e_new (fun _ => rfl) rfl) (fun _ => rfl) (fun r3 => ?_)
  show OS _ _ _ _ ((r3, ARow.cells tDd [.slice hA hn hc, .slice sA sn sc]) :: _) _
  refine yG ?_
  refine OS.fresh rfl (e_new (fun _ => rfl) rfl) (fun _ => rfl) (fun r6 => ?_)
  show OS _ _ _ _ ((r6, ARow.cells tDd [.slice none 0 0, .slice none 0 0]) :: _) _
  have hend : ∀ x y, Ends F (x :: y :: (HY ++ (SY ++ (IY ++ (Y ++ F))))) := fun x y => by repeat (first | exact Ends.nil | apply Ends.cons | apply Ends.app)
  have hg0 : (strs (w :: a))[0]? = some (str w) := rfl
  have hlsL : SV 1 ((r6, ARow.cells tDd [.slice none 0 0, .slice none 0 0]) :: (r3, ARow.cells tDd [.slice hA hn hc, .slice sA sn sc]) :: (HY ++ (SY ++ (IY ++ (Y ++ F))))) (.slice lA (w :: a).length lc) (w :: a).length (strs (w :: a)) := hls.up fun p hp => List.mem_cons_of_mem _ (List.mem_cons_of_mem _ hp)
  have hSL : SV 4 ((r6, ARow.cells tDd [.slice none 0 0, .slice none 0 0]) :: (r3, ARow.cells tDd [.slice hA hn hc, .slice sA sn sc]) :: (HY ++ (SY ++ (IY ++ (Y ++ F))))) (.slice sA sn sc) d.secs.length scs := hS.up fun p hp => List.mem_cons_of_mem _ (List.mem_cons_of_mem _ hp)
  refine yG ?_
  refine OS.at1 (j := 0) (hlsL) (hg0) rfl rfl rfl rfl rfl rfl (fun ra0 oa0 rowa0 csa0 ma0 ca0 ga0 => ⟨_, rfl, ?_⟩)
  refine OS.read rfl (e_loadm ma0 ca0 rfl rfl (part_one rfl ga0)) rfl ?_
  by_cases hsec : w = kTemplate ∨ w = kJob
  · have hcases : (bytesEq w [116, 101, 109, 112, 108, 97, 116, 101] = true ∧ bytesEq w [106, 111, 98] = false ∧ kindOf w = 1) ∨ (bytesEq w [116, 101, 109, 112, 108, 97, 116, 101] = false ∧ bytesEq w [106, 111, 98] = true ∧ kindOf w = 2) := by
      rcases hsec with rfl | rfl
      · exact .inl ⟨rfl, rfl, rfl⟩
      · exact .inr ⟨rfl, rfl, rfl⟩
    have hE : LN d no w a = secE d no w a := by
      show line chk d no w a = _
      unfold line
      rw [if_pos hsec]
      cases a with
      | nil => rfl
      | cons x r => cases r <;> rfl
    rcases hcases with ⟨c1, c2, hk⟩ | ⟨c1, c2, hk⟩
    rotate_left
    refine yG ?_
    refine OS.at1 (j := 0) (hlsL) (hg0) rfl rfl rfl rfl rfl rfl (fun ra0 oa0 rowa0 csa0 ma0 ca0 ga0 => ⟨_, rfl, ?_⟩)
    refine OS.read rfl (e_loadm ma0 ca0 rfl rfl (part_one rfl ga0)) rfl ?_
    all_goals
      by_cases hla : a.length = 1
      rotate_left
      · have hb : (!ieqB (((w :: a).length : Nat) : Int) 2) = true := by rw [ieqB_eq]; simp; omega
        have hE4 : LN d no w a = .error 4 := by
          rw [hE]
          match a, hla with
          | [], _ => rfl
          | [_], h => exact absurd rfl h
          | _ :: _ :: _, _ => rfl
        refine yG ?_
        refine LS.ret ⟨_, res_cell2 0 rfl rfl rfl rfl rfl, ?_⟩
        exact hErr 4 _ (by decide) hE4 (hend _ _)
      obtain ⟨n, rfl⟩ : ∃ n, a = [n] := by
        match a, hla with
        | [n], _ => exact ⟨n, rfl⟩
      have hg1 : (strs (w :: [n]))[1]? = some (str n) := rfl
      have hb : (!ieqB (((w :: [n]).length : Nat) : Int) 2) = false := rfl
      have hnl := hbd n (by simp)
      refine yG ?_
      refine OS.at1 (j := 1) (hlsL) (hg1) rfl rfl rfl rfl rfl rfl (fun ra0 oa0 rowa0 csa0 ma0 ca0 ga0 => ⟨_, rfl, ?_⟩)
      refine OS.read rfl (e_loadm ma0 ca0 rfl rfl (part_one rfl ga0)) rfl ?_
      refine OS.call noGo rfl (fun _ => rfl) ((refName_ct n (by omega)).mono ?_)
      rintro v L' ⟨rfl, hL⟩
      rw [hL]
      clear hL
      refine ⟨_, rfl, ?_⟩
      rcases tf (nameB n) with hx | hx
      rotate_left
      · rw [hx]
        refine yG ?_
        refine LS.ret ⟨_, res_cell2 0 rfl rfl rfl rfl rfl, ?_⟩
        exact hErr 63 _ (by decide) (by rw [hE]; simp [secE, hx]) (hend _ _)
      rw [hx]
      have hE' : LN d no w [n] = if (d.secs.any fun s => s.kind == kindOf w && decide (s.name = n)) = true then Except.error 6 else if 24 ≤ cnt d (kindOf w) then .error 3 else .ok ⟨d.head, d.secs ++ [⟨no, kindOf w, n, []⟩]⟩ := by rw [hE]; simp [secE, hx]
      generalize hP : (fun s : Se => s.kind == kindOf w && decide (s.name = n)) = P at hE'
      generalize hK : (fun s : Se => s.kind == kindOf w) = K
      have hPy : ∀ y : Se, P y = (y.kind == kindOf w && decide (y.name = n)) := fun y => by rw [← hP]
      have hKy : ∀ y : Se, K y = (y.kind == kindOf w) := fun y => by rw [← hK]
      refine yG ?_
      refine OS.at1 (j := 0) (hlsL) (hg0) rfl rfl rfl rfl rfl rfl (fun ra0 oa0 rowa0 csa0 ma0 ca0 ga0 => ⟨_, rfl, ?_⟩)
      refine OS.read rfl (e_loadm ma0 ca0 rfl rfl (part_one rfl ga0)) rfl ?_
      refine yG ?_
      refine LS.loopJ [1, 2, 3, 6, 8, 9, 10] (fun q s L' => ∃ j : Nat, q = d.secs.length - j ∧ j ≤ d.secs.length ∧ (d.secs.take j).any P = false ∧ L' = (r6, ARow.cells tDd [.slice none 0 0, .slice none 0 0]) :: (r3, ARow.cells tDd [.slice hA hn hc, .slice sA sn sc]) :: (HY ++ (SY ++ (IY ++ (Y ++ F)))) ∧ s = [.chan none, .int .i64 no, .slice lA (w :: [n]).length lc, ptr r3, .chan none, .chan none, ptr r6, .chan none, .int .u8 ((kindOf w).toNat : Nat), .int .i64 (((d.secs.take j).filter K).length : Nat), .int .i64 (j : Nat), .chan none, .chan none, .chan none, .chan none, .chan none, .chan none, .chan none, .chan none, .chan none, .chan none, .chan none, .chan none, .chan none, .chan none, .chan none, .chan none, .chan none, .chan none, .chan none, .chan none, .chan none, .chan none, .chan none, .chan none, .chan none, .chan none, .chan none, .chan none, .chan none, .chan none, .chan none, .chan none, .chan none, .chan none, .chan none, .chan none, .chan none, .chan none, .chan none, .chan none, .chan none, .chan none, .chan none, .chan none, .chan none, .chan none, .chan none, .chan none, .chan none, .chan none, .chan none, .chan none, .chan none, .chan none, .chan none, .chan none, .chan none, .chan none, .chan none, .chan none, .chan none, .chan none, .chan none, .chan none, .chan none, .chan none, .chan none, .chan none, .chan none, .chan none, .chan none, .chan none, .chan none, .chan none, .chan none, .chan none, .chan none, .chan none, .chan none, .chan none, .chan none, .chan none, .chan none, .chan none, .chan none, .chan none, .chan none, .chan none, .chan none, .chan none, .chan none, .chan none, .chan none, .chan none, .chan none, .chan none, .chan none, .chan none, .chan none, .chan none, .chan none, .chan none, .chan none, .chan none, .chan none, .chan none, .chan none, .chan none, .chan none, .chan none, .chan none, .chan none, .chan none, .chan none, .chan none, .chan none, .chan none, .chan none, .chan none, .chan none, .chan none, .chan none, .chan none, .chan none, .chan none, .chan none, .chan none, .chan none, .chan none, .chan none, .chan none, .chan none, .chan none, .chan none, .chan none, .chan none, .chan none, .chan none, .chan none, .chan none, .chan none, .chan none, .chan none, .chan none, .chan none, .chan none, .chan none]) (n := d.secs.length) rfl ⟨0, rfl, by omega, rfl, rfl, by rw [hk]; rfl⟩ ?_
      rintro q s L' ⟨j, rfl, hj, hA0, rfl, rfl⟩
      by_cases hjn : j < d.secs.length
      · have hb2 : (!ileB ((d.secs.length : Nat) : Int) (j : Nat)) = true := by rw [ileB_eq]; simp; omega
        have hxj : d.secs[j]? = some d.secs[j] := List.getElem?_eq_getElem hjn
        generalize d.secs[j] = y at hxj
        obtain ⟨iv, ics, hcut, hiv, hyI⟩ := hSR.at hxj
        have hml : ((d.secs.take j).filter K).length ≤ d.secs.length := Nat.le_trans (List.length_filter_le _ _) (by rw [List.length_take]; omega)
        refine yG ?_
        refine OS.at (j := j) hSL hjn rfl rfl rfl rfl rfl rfl (fun r0 o0 row0 cs0 m0 d0 g0 k0 => ?_)
        refine ⟨_, rfl, ?_⟩
        refine yG ?_
        refine OS.read rfl (e_loadm m0 d0 rfl rfl (part_one rfl (g0 1 (.int .u8 (y.kind.toNat : Nat)) (by decide) (cut_get hcut (j := 1) rfl)))) rfl ?_
        by_cases hyk : y.kind = kindOf w
        · have ck : ieqB ((y.kind.toNat : Nat) : Int) ((kindOf w).toNat : Nat) = true := by rw [hyk, ieqB_eq]; simp
          have hKt : K y = true := by rw [hKy, hyk]; simp
          refine yG ?_
          repeat refine LS.seq ?_
          refine LS.drawn noGo mixed [(0, false), (1, false), (2, false), (3, false), (4, false), (5, false), (6, false), (7, false), (8, false), (9, false)] rfl rfl (by kernel_rfl) ?_
          refine yG ?_
          refine ODS.at (j := j) hSL hjn rfl rfl rfl rfl rfl rfl rfl (fun r1 o1 row1 cs1 m1 d1 g1 k1 => ?_)
          refine ⟨_, rfl, ?_⟩
          refine yG ?_
          refine ODS.read rfl rfl (e_loadm m1 d1 rfl rfl (part_one rfl (g1 2 (str y.name) (by decide) (cut_get hcut (j := 2) rfl)))) rfl ?_
          refine yG ?_
          refine ODS.at1 (j := 1) (hlsL) (hg1) rfl rfl rfl rfl rfl rfl rfl (fun ra2 oa2 rowa2 csa2 ma2 ca2 ga2 => ⟨_, rfl, ?_⟩)
          refine ODS.read rfl rfl (e_loadm ma2 ca2 rfl rfl (part_one rfl ga2)) rfl ?_
          by_cases hyn : y.name = n
          · have cy : bytesEq y.name n = true := by rw [beq_bytes]; exact decide_eq_true hyn
            refine yG ?_
            refine LS.ret ⟨_, res_cell2 0 rfl rfl rfl rfl rfl, ?_⟩
            exact hErr 6 _ (by decide) (by rw [hE', if_pos (any_stop hxj (by rw [hPy, hyk, hyn]; simp))]) (hend _ _)
          · have cy : bytesEq y.name n = false := by rw [beq_bytes]; exact decide_eq_false hyn
            refine yG ?_
            exact ⟨d.secs.length - (j + 1), by omega, j + 1, rfl, by omega, any_step hxj hA0 (by rw [hPy, decide_eq_false hyn, Bool.and_false]), rfl, by rw [any_take hxj, if_pos hKt]; rfl⟩
        · have ck : ieqB ((y.kind.toNat : Nat) : Int) ((kindOf w).toNat : Nat) = false := by rw [u8_is]; exact decide_eq_false hyk
          have hKt : ¬ K y = true := by rw [hKy]; simpa using hyk
          refine yG ?_
          exact ⟨d.secs.length - (j + 1), by omega, j + 1, rfl, by omega, any_step hxj hA0 (by rw [hPy]; simp [hyk]), rfl, by rw [any_take hxj, if_neg hKt]; rfl⟩
      have hb2 : (!ileB ((d.secs.length : Nat) : Int) (j : Nat)) = false := by rw [ileB_eq]; simp; omega
      rw [List.take_of_length_le (by omega)] at hA0
      have hcn : ((d.secs.take j).filter K).length = cnt d (kindOf w) := by rw [List.take_of_length_le (by omega), ← hK]; rfl
      refine yG ?_
      refine LS.exit ?_
      rw [hcn]
      by_cases hf : 24 ≤ cnt d (kindOf w)
      · have hb3 : ileB 24 ((cnt d (kindOf w) : Nat) : Int) = true := by rw [ileB_eq]; simp; omega
        refine yG ?_
        refine LS.ret ⟨_, res_cell2 0 rfl rfl rfl rfl rfl, ?_⟩
        exact hErr 3 _ (by decide) (by rw [hE', if_neg (by rw [hA0]; simp), if_pos hf]) (hend _ _)
      have hb3 : ileB 24 ((cnt d (kindOf w) : Nat) : Int) = false := by rw [ileB_eq]; simp; omega
      have hE2 : LN d no w [n] = .ok ⟨d.head, d.secs ++ [⟨no, kindOf w, n, []⟩]⟩ := by rw [hE', if_neg (by rw [hA0]; simp), if_neg hf]
      have hok2 := hok.begin (no := no) (w := w) (n := n) (by omega)
      rw [hE2]
      clear hE hE' hErr hA0
      refine yG ?_
      cases hD with
      | none hh' hI' =>
        repeat refine LS.seq ?_
        refine LS.drawn noGo mixed [(0, false), (1, false), (2, false), (3, false), (4, false), (5, false), (6, false), (7, false), (8, true), (9, true), (10, false), (11, true)] rfl rfl (by kernel_rfl) ?_
        refine yG ?_
        refine ODS.at1 (j := 1) (hlsL) (hg1) rfl rfl rfl rfl rfl rfl rfl (fun ra2 oa2 rowa2 csa2 ma2 ca2 ga2 => ⟨_, rfl, ?_⟩)
        refine ODS.read rfl rfl (e_loadm ma2 ca2 rfl rfl (part_one rfl ga2)) rfl ?_
        refine yG ?_
        refine ODS.fresh rfl rfl (e_new (fun _ => rfl) rfl) (fun _ => rfl) (fun _ => Keep.gone rfl (Keep.cons rfl (e_load 2 rfl rfl rfl rfl rfl) Keep.nil)) (fun rt => ?_)
        refine ODS.fresh rfl rfl (e_appendGV [(rt, _), (r6, _), (r3, _)] (e := tZ) (sz := 4) (bts := 56) (m := 1) GV.nil (SV.row (sz := 4) (n := 1) (List.mem_cons_self ..) rfl) (by omega) rfl rfl rfl rfl (by omega) (by omega)) (fun _ => rfl) (fun _ => Keep.gone rfl (Keep.gone rfl Keep.nil)) (fun r2 => ?_)
        refine yG ?_
        refine ODS.write rfl rfl (e_store 3 rfl rfl rfl rfl rfl rfl rfl rfl) rfl (Keep.gone rfl (Keep.gone rfl Keep.nil)) ?_
        refine yG ?_
        refine LS.ret ⟨_, res_cell2 2 rfl rfl rfl rfl rfl, ?_⟩
        refine ⟨HY ++ ([(r2, .cells tZ ([] ++ secC no (kindOf w) n (.slice none 0 0)))] ++ ([] ++ (Y ++ F))), ?_, _, Y, rfl, _, _, HY, _, _, rfl, rfl, hBF, hok2, .some (S := []) (y := ⟨no, kindOf w, n, []⟩) (cs0 := []) hh' hI' rfl .nil rfl⟩
        refine Sub.trans (Sub.sums fun f => ?_) (Sub.trans (Sub.drop 1 rfl) (Sub.trans (Sub.drop 1 rfl) (Sub.drop 1 rfl)))
        simp [secC] <;> omega
      | @some hd cs HY IY S y cs0 ics iv rS hh' hI' hS' hg' hy' =>
        have m1 : ∀ p, p ∈ Y ++ B → p ∈ (IY ++ Y) ++ B := fun p hp => by rw [List.append_assoc]; exact List.mem_append_right _ hp
        have m2 : ∀ p, p ∈ IY ++ (Y ++ B) → p ∈ (IY ++ Y) ++ B := fun p hp => by rw [List.append_assoc]; exact hp
        have hl := hS'.len
        have hgs : GV tZ 4 (HY ++ (IY ++ (Y ++ F))) (.slice (some ⟨rS, 0, none⟩) (S.length + 1) openCap) (S.length + 1) (cs0 ++ secC y.no y.kind y.name iv) ((rS, .cells tZ (cs0 ++ secC y.no y.kind y.name iv)) :: (HY ++ (IY ++ (Y ++ F)))) := .inr ⟨rS, rfl, by simp [hl]; omega, rfl⟩
        have hsl : S.length + 1 ≤ 48 := by simpa using hslen
        have mN : ∀ x y z, ∀ p, p ∈ Y ++ B → p ∈ x :: y :: z :: (HY ++ (IY ++ (Y ++ F))) := fun x y z p hp => by
          rcases List.mem_append.1 hp with h | h
          · simp [h]
          · simp [hBF p h]
        repeat refine LS.seq ?_
        refine LS.sub (Sub.sums (A := (r6, ARow.cells tDd [.slice none 0 0, .slice none 0 0]) :: (r3, ARow.cells tDd [.slice hA hn hc, .slice (some ⟨rS, 0, none⟩) (S.length + 1) openCap]) :: (rS, .cells tZ (cs0 ++ secC y.no y.kind y.name iv)) :: (HY ++ (IY ++ (Y ++ F)))) fun f => by simp <;> omega) ?_
        repeat refine LS.seq ?_
        refine LS.drawn noGo mixed [(0, false), (1, false), (2, false), (3, false), (4, false), (5, false), (6, false), (7, false), (8, true), (9, true), (10, false), (11, true)] rfl rfl (by kernel_rfl) ?_
        refine yG ?_
        refine ODS.at1 (j := 1) (hlvB.sv.up (mN _ _ _)) (hg1) rfl rfl rfl rfl rfl rfl rfl (fun ra2 oa2 rowa2 csa2 ma2 ca2 ga2 => ⟨_, rfl, ?_⟩)
        refine ODS.read rfl rfl (e_loadm ma2 ca2 rfl rfl (part_one rfl ga2)) rfl ?_
        refine yG ?_
        refine ODS.fresh rfl rfl (e_new (fun _ => rfl) rfl) (fun _ => rfl) (fun _ => Keep.gone rfl (Keep.cons rfl (e_load 2 rfl rfl rfl rfl rfl) Keep.nil)) (fun rt => ?_)
        refine ODS.fresh rfl rfl (e_appendGV [(rt, _), (r6, _), (r3, _)] (e := tZ) (sz := 4) (bts := 56) (m := 1) hgs (SV.row (sz := 4) (n := 1) (List.mem_cons_self ..) rfl) (by omega) rfl rfl rfl rfl (by omega) (by omega)) (fun _ => rfl) (fun _ => Keep.gone rfl (Keep.gone rfl Keep.nil)) (fun r2 => ?_)
        refine yG ?_
        refine ODS.write rfl rfl (e_store 3 rfl rfl rfl rfl rfl rfl rfl rfl) rfl (Keep.gone rfl (Keep.gone rfl Keep.nil)) ?_
        refine yG ?_
        refine LS.ret ⟨_, res_cell2 2 rfl rfl rfl rfl rfl, ?_⟩
        refine ⟨HY ++ ([(r2, .cells tZ ((cs0 ++ secC y.no y.kind y.name iv) ++ secC no (kindOf w) n (.slice none 0 0)))] ++ ([] ++ ((IY ++ Y) ++ F))), ?_, _, IY ++ Y, rfl, _, _, HY, _, _, rfl, rfl, hBF, hok2, (by rw [show S.length + 1 + 1 = (S ++ [y]).length + 1 by simp]; exact .some (S := S ++ [y]) (y := ⟨no, kindOf w, n, []⟩) hh' (hI'.mono m1) ((hS'.mono m1).snoc ⟨(hg'.appendR (Y ++ B)).sv.up m2, hy'.mono m1⟩) .nil rfl)⟩
        refine Sub.trans (Sub.sums fun f => ?_) (Sub.trans (Sub.drop 1 rfl) (Sub.trans (Sub.drop 1 rfl) (Sub.drop 1 rfl)))
        simp [secC] <;> omega
  have c1 : bytesEq w [116, 101, 109, 112, 108, 97, 116, 101] = false := by rw [beq_bytes]; exact decide_eq_false fun h => hsec (.inl h)
  have c2 : bytesEq w [106, 111, 98] = false := by rw [beq_bytes]; exact decide_eq_false fun h => hsec (.inr h)
  have hE : LN d no w a = if Pd.shape w d.last.1 d.last.2.isEmpty a.length = false then Except.error 4 else if argsE chk w a ≠ 0 then .error (argsE chk w a) else if Pd.twice d.last.2 w a then .error 6 else if 40 ≤ d.last.2.length then .error 3 else .ok (d.add ⟨no, w, a⟩) := by
    show line chk d no w a = _
    unfold line
    rw [if_neg hsec]
  have hax := ax_last hok
  have hw1 : 1 ≤ (w :: a).length := by simp
  have hw2 : (w :: a).length ≤ 401 := by simp; omega
  have mL2 : ∀ x y, ∀ p, p ∈ Y ++ B → p ∈ x :: y :: (HY ++ (SY ++ (IY ++ (Y ++ F)))) := fun x y p hp => List.mem_cons_of_mem _ (List.mem_cons_of_mem _ (mYB p hp))
  refine yG ?_
  refine OS.at1 (j := 0) (hlsL) (hg0) rfl rfl rfl rfl rfl rfl (fun ra0 oa0 rowa0 csa0 ma0 ca0 ga0 => ⟨_, rfl, ?_⟩)
  refine OS.read rfl (e_loadm ma0 ca0 rfl rfl (part_one rfl ga0)) rfl ?_
  cases hD with
  | @none it cs HY hh' hI' =>
    obtain ⟨kd, hkd⟩ : ∃ kd : UInt8, kd = 0 := ⟨_, rfl⟩
    have hlast : (Dc.mk it []).last = (kd, it) := by rw [hkd]; rfl
    rw [hlast] at hE hax
    simp only at hE hax
    have hit : SV 3 (HY ++ ([] ++ ([] ++ (Y ++ F)))) (.slice hA hn hc) it.length hcs := hh
    have hiI : ItsR (HY ++ ([] ++ ([] ++ (Y ++ F)))) it hcs := hI
    have hil : it.length ≤ 40 := hok.ok.head
    have hkv : (.int .u8 0 : Value) = .int .u8 (kd.toNat : Nat) := by rw [hkd]; rfl
    refine yG ?_
    refine OS.pure rfl (e_sub rfl rfl rfl rfl) rfl ?_
    rw [hkv]
    refine yG ?_
    refine OS.at1 (j := 0) (hlsL) (hg0) rfl rfl rfl rfl rfl rfl (fun ra0 oa0 rowa0 csa0 ma0 ca0 ga0 => ⟨_, rfl, ?_⟩)
    refine OS.read rfl (e_loadm ma0 ca0 rfl rfl (part_one rfl ga0)) rfl ?_
    refine yG ?_
    refine OS.call noGo rfl (fun _ => rfl) ((shape_ct w kd _ _).mono ?_)
    rintro u L' ⟨rfl, hL⟩
    rw [hL]
    clear hL
    have hsh : Pd.shape w kd (ieqB ((it.length : Nat) : Int) 0) ((w :: a).length - 1) = Pd.shape w kd it.isEmpty a.length := by
      congr 1
      cases it with
      | nil => rfl
      | cons x r => rw [ieqB_eq]; simp; omega
    rw [hsh]
    rcases tf (Pd.shape w kd it.isEmpty a.length) with hs | hs
    rotate_left
    · rw [hs]
      refine ⟨_, rfl, ?_⟩
      refine yG ?_
      refine LS.ret ⟨_, res_cell2 0 rfl rfl rfl rfl rfl, ?_⟩
      exact hErr 4 _ (by decide) (by rw [hE, if_pos hs]) (hend _ _)
    rw [hs]
    have h0 : (w = kTries ∨ w = kLimit) → a ≠ [] := fun h e => by subst e; rcases h with rfl | rfl <;> revert hs <;> simp [sh_Tries, sh_Limit]
    have h1 : w = kAxis → a ≠ [] := fun h e => by subst e; subst h; revert hs; simp [sh_Axis]
    rw [if_neg (by rw [hs]; simp)] at hE
    refine ⟨_, rfl, ?_⟩
    refine yG ?_
    repeat refine LS.seq ?_
    refine LS.drawn noGo mixed [(0, false), (1, false), (2, false), (3, false), (4, false), (5, true), (6, false)] rfl rfl (by kernel_rfl) ?_
    refine yG ?_
    refine ODS.at1 (j := 0) (hlsL) (hg0) rfl rfl rfl rfl rfl rfl rfl (fun ra2 oa2 rowa2 csa2 ma2 ca2 ga2 => ⟨_, rfl, ?_⟩)
    refine ODS.read rfl rfl (e_loadm ma2 ca2 rfl rfl (part_one rfl ga2)) rfl ?_
    refine yG ?_
    refine ODS.sliceWO rfl 1 hlvB (mL2 _ _) rfl rfl rfl rfl rfl rfl (by simp) fun av hav0 => ⟨_, rfl, ?_⟩
    have hav : Wd (Y ++ B) av a := hav0
    refine ODS.call rfl rfl (fun _ => rfl) ((args_ct (hav.mono (mL2 _ _)) (by omega) (fun x hx => hbd x (List.mem_cons_of_mem _ hx)) h0).mono ?_)
    rintro u L' ⟨rfl, rfl⟩
    refine ⟨_, rfl, ?_, ?_⟩
    · exact Keep.gone rfl (Keep.gone rfl Keep.nil)
    by_cases hz : argsE chk w a = 0
    rotate_left
    · have hzb : (!ieqB ((argsE chk w a : Nat) : Int) 0) = true := by rw [ieqB_eq]; simpa using hz
      refine yG ?_
      refine LS.ret ⟨_, res_cell2 0 rfl rfl rfl rfl rfl, ?_⟩
      exact hErr _ _ hz (by rw [hE, if_pos hz]) (hend _ _)
    have hzb : (!ieqB ((argsE chk w a : Nat) : Int) 0) = false := by rw [ieqB_eq]; simpa using hz
    rw [if_neg (by rw [hz]; simp)] at hE
    refine yG ?_
    repeat refine LS.seq ?_
    refine LS.drawn noGo mixed [(0, false), (1, false), (2, false), (3, false), (4, false), (5, false), (6, true)] rfl rfl (by kernel_rfl) ?_
    refine yG ?_
    refine ODS.at1 (j := 0) (hlsL) (hg0) rfl rfl rfl rfl rfl rfl rfl (fun ra2 oa2 rowa2 csa2 ma2 ca2 ga2 => ⟨_, rfl, ?_⟩)
    refine ODS.read rfl rfl (e_loadm ma2 ca2 rfl rfl (part_one rfl ga2)) rfl ?_
    refine yG ?_
    refine ODS.sliceWO rfl 1 hlvB (mL2 _ _) rfl rfl rfl rfl rfl rfl (by simp) fun av2 hav2 => ⟨_, rfl, ?_⟩
    have hav2 : Wd (Y ++ B) av2 a := hav2
    refine ODS.call rfl rfl (fun _ => rfl) ((twice_ct hit hiI (fun p hp => List.mem_cons_of_mem _ (List.mem_cons_of_mem _ hp)) (hav2.mono (mL2 _ _)) (by omega) hax h1).mono ?_)
    rintro u L' ⟨rfl, rfl⟩
    refine ⟨_, rfl, ?_, ?_⟩
    · exact Keep.gone rfl (Keep.gone rfl Keep.nil)
    rcases tf (Pd.twice it w a) with htw | htw
    · rw [htw]
      refine yG ?_
      refine LS.ret ⟨_, res_cell2 0 rfl rfl rfl rfl rfl, ?_⟩
      exact hErr 6 _ (by decide) (by rw [hE, if_pos htw]) (hend _ _)
    rw [htw]
    rw [if_neg (by rw [htw]; simp)] at hE
    by_cases hfull : 40 ≤ it.length
    · have hb : ileB 40 ((it.length : Nat) : Int) = true := by rw [ileB_eq]; simp; omega
      refine yG ?_
      refine LS.ret ⟨_, res_cell2 0 rfl rfl rfl rfl rfl, ?_⟩
      exact hErr 3 _ (by decide) (by rw [hE, if_pos hfull]) (hend _ _)
    have hb : ileB 40 ((it.length : Nat) : Int) = false := by rw [ileB_eq]; simp; omega
    rw [if_neg hfull] at hE
    rw [hE]
    clear hE hErr
    refine yG ?_
    repeat refine LS.seq ?_
    refine LS.drawn noGo mixed [(0, false), (1, false), (2, false), (3, false), (4, false), (5, false), (6, false), (7, false), (8, true), (9, true), (10, false)] rfl rfl (by kernel_rfl) ?_
    refine yG ?_
    refine ODS.at1 (j := 0) (hlsL) (hg0) rfl rfl rfl rfl rfl rfl rfl (fun ra2 oa2 rowa2 csa2 ma2 ca2 ga2 => ⟨_, rfl, ?_⟩)
    refine ODS.read rfl rfl (e_loadm ma2 ca2 rfl rfl (part_one rfl ga2)) rfl ?_
    refine yG ?_
    refine ODS.sliceWO rfl 1 hlvB (mL2 _ _) rfl rfl rfl rfl rfl rfl (by simp) fun av3 hav3 => ⟨_, rfl, ?_⟩
    have hav3 : Wd (Y ++ B) av3 a := hav3
    obtain ⟨avA, avc, rfl⟩ := hav3.form
    refine yG ?_
    refine ODS.fresh rfl rfl (e_new (fun _ => rfl) rfl) (fun _ => rfl) (fun _ => Keep.gone rfl (Keep.gone rfl Keep.nil)) (fun rt => ?_)
    refine ODS.fresh rfl rfl (e_appendGV [(rt, _), (r6, _), (r3, _)] (e := tJ) (sz := 3) (bts := 48) (m := 1) (hh'.appendR (Y ++ F)) (SV.row (sz := 3) (n := 1) (List.mem_cons_self ..) rfl) (by omega) rfl rfl rfl rfl (by omega) (by omega)) (fun _ => rfl) (fun _ => Keep.gone rfl (Keep.gone rfl Keep.nil)) (fun r2 => ?_)
    refine yG ?_
    refine LS.ret ⟨_, res_cell2 2 rfl rfl rfl rfl rfl, ?_⟩
    refine ⟨[(r2, .cells tJ (cs ++ [.int .i64 no, str w, .slice avA a.length avc]))] ++ ([] ++ ([] ++ (Y ++ F))), ?_, _, Y, rfl, _, _, [(r2, .cells tJ (cs ++ [.int .i64 no, str w, .slice avA a.length avc]))], [], [], rfl, rfl, hBF, ⟨hok.ok.addH (by omega), ax_snoc hok.head h1, hok.secs⟩, .none ?_ (hI'.snoc (x := ⟨no, w, a⟩) hav3)⟩
    · refine Sub.trans (Sub.sums fun f => ?_) (Sub.trans (Sub.drop 1 rfl) (Sub.trans (Sub.drop 1 rfl) (Sub.drop 1 rfl)))
      simp <;> omega
    · have hlen := hI'.len
      rw [List.length_append]
      exact .of (by simp [hlen]; omega)
  | @some hd cs HY IY S y cs0 ics iv rS hh' hI' hS' hg' hy' =>
    obtain ⟨ivA, ivc, rfl⟩ := hg'.sv.form
    have hlast : (Dc.mk hd (S ++ [y])).last = (y.kind, y.items) := by simp [Dc.last]
    rw [hlast] at hE hax
    simp only at hE hax
    have hl := hS'.len
    have hil : y.items.length ≤ 40 := hok.ok.items y (by simp)
    have hsl : S.length + 1 ≤ 48 := by simpa using hslen
    have hg : ileB 0 ((S.length + 1 - 1 : Nat) : Int) = true := by rw [ileB_eq]; simp
    have hS2 : SV 4 ((r6, ARow.cells tDd [.slice none 0 0, .slice none 0 0]) :: (r3, ARow.cells tDd [.slice hA hn hc, .slice (some ⟨rS, 0, none⟩) (S.length + 1) openCap]) :: (HY ++ ([(rS, ARow.cells tZ (cs0 ++ secC y.no y.kind y.name (.slice ivA y.items.length ivc)))] ++ (IY ++ (Y ++ F))))) (.slice (some ⟨rS, 0, none⟩) (S.length + 1) openCap) (S.length + 1) scs := by have := hSL; simpa using this
    have mS : (rS, ARow.cells tZ (cs0 ++ secC y.no y.kind y.name (.slice ivA y.items.length ivc))) ∈ (r6, ARow.cells tDd [.slice none 0 0, .slice none 0 0]) :: (r3, ARow.cells tDd [.slice hA hn hc, .slice (some ⟨rS, 0, none⟩) (S.length + 1) openCap]) :: (HY ++ ([(rS, ARow.cells tZ (cs0 ++ secC y.no y.kind y.name (.slice ivA y.items.length ivc)))] ++ (IY ++ (Y ++ F)))) := by simp
    have g1 : (cs0 ++ secC y.no y.kind y.name (.slice ivA y.items.length ivc))[0 + (S.length + 1 - 1) * 4 + 1]? = some (.int .u8 (y.kind.toNat : Nat)) := by rw [Nat.zero_add, Nat.add_sub_cancel, List.getElem?_append_right (by omega), hl]; simp
    have g3 : (cs0 ++ secC y.no y.kind y.name (.slice ivA y.items.length ivc))[0 + (S.length + 1 - 1) * 4 + 3]? = some (.slice ivA y.items.length ivc) := by rw [Nat.zero_add, Nat.add_sub_cancel, List.getElem?_append_right (by omega), hl]; simp
    have hit : SV 3 (HY ++ ([(rS, ARow.cells tZ (cs0 ++ secC y.no y.kind y.name (.slice ivA y.items.length ivc)))] ++ (IY ++ (Y ++ F)))) (.slice ivA y.items.length ivc) y.items.length ics := hg'.sv.up fun p hp => by simp [hp]
    have hiI : ItsR (HY ++ ([(rS, ARow.cells tZ (cs0 ++ secC y.no y.kind y.name (.slice ivA y.items.length ivc)))] ++ (IY ++ (Y ++ F)))) y.items ics := hy'.mono mYB
    clear hSL hS
    refine yG ?_
    refine OS.pure rfl (e_index (j := S.length + 1 - 1) (sz := 4) rfl rfl rfl rfl rfl (by omega)) rfl ?_
    refine yG ?_
    refine OS.read rfl (e_loadm mS rfl rfl rfl (part_one rfl g1)) rfl ?_
    refine yG ?_
    refine OS.pure rfl (e_index (j := S.length + 1 - 1) (sz := 4) rfl rfl rfl rfl rfl (by omega)) rfl ?_
    refine yG ?_
    refine OS.read rfl (e_loadm mS rfl rfl rfl (part_one rfl g3)) rfl ?_
    refine yG ?_
    refine OS.at1 (j := 0) (hlsL) (hg0) rfl rfl rfl rfl rfl rfl (fun ra0 oa0 rowa0 csa0 ma0 ca0 ga0 => ⟨_, rfl, ?_⟩)
    refine OS.read rfl (e_loadm ma0 ca0 rfl rfl (part_one rfl ga0)) rfl ?_
    refine yG ?_
    refine OS.call noGo rfl (fun _ => rfl) ((shape_ct w y.kind _ _).mono ?_)
    rintro u L' ⟨rfl, hL⟩
    rw [hL]
    clear hL
    have hsh : Pd.shape w y.kind (ieqB ((y.items.length : Nat) : Int) 0) ((w :: a).length - 1) = Pd.shape w y.kind y.items.isEmpty a.length := by
      congr 1
      cases y.items with
      | nil => rfl
      | cons x r => rw [ieqB_eq]; simp; omega
    rw [hsh]
    rcases tf (Pd.shape w y.kind y.items.isEmpty a.length) with hs | hs
    rotate_left
    · rw [hs]
      refine ⟨_, rfl, ?_⟩
      refine yG ?_
      refine LS.ret ⟨_, res_cell2 0 rfl rfl rfl rfl rfl, ?_⟩
      exact hErr 4 _ (by decide) (by rw [hE, if_pos hs]) (hend _ _)
    rw [hs]
    have h0 : (w = kTries ∨ w = kLimit) → a ≠ [] := fun h e => by subst e; rcases h with rfl | rfl <;> revert hs <;> simp [sh_Tries, sh_Limit]
    have h1 : w = kAxis → a ≠ [] := fun h e => by subst e; subst h; revert hs; simp [sh_Axis]
    rw [if_neg (by rw [hs]; simp)] at hE
    refine ⟨_, rfl, ?_⟩
    refine yG ?_
    repeat refine LS.seq ?_
    refine LS.drawn noGo mixed [(0, false), (1, false), (2, false), (3, false), (4, false), (5, true), (6, false)] rfl rfl (by kernel_rfl) ?_
    refine yG ?_
    refine ODS.at1 (j := 0) (hlsL) (hg0) rfl rfl rfl rfl rfl rfl rfl (fun ra2 oa2 rowa2 csa2 ma2 ca2 ga2 => ⟨_, rfl, ?_⟩)
    refine ODS.read rfl rfl (e_loadm ma2 ca2 rfl rfl (part_one rfl ga2)) rfl ?_
    refine yG ?_
    refine ODS.sliceWO rfl 1 hlvB (mL2 _ _) rfl rfl rfl rfl rfl rfl (by simp) fun av hav0 => ⟨_, rfl, ?_⟩
    have hav : Wd (Y ++ B) av a := hav0
    refine ODS.call rfl rfl (fun _ => rfl) ((args_ct (hav.mono (mL2 _ _)) (by omega) (fun x hx => hbd x (List.mem_cons_of_mem _ hx)) h0).mono ?_)
    rintro u L' ⟨rfl, rfl⟩
    refine ⟨_, rfl, ?_, ?_⟩
    · exact Keep.gone rfl (Keep.gone rfl Keep.nil)
    by_cases hz : argsE chk w a = 0
    rotate_left
    · have hzb : (!ieqB ((argsE chk w a : Nat) : Int) 0) = true := by rw [ieqB_eq]; simpa using hz
      refine yG ?_
      refine LS.ret ⟨_, res_cell2 0 rfl rfl rfl rfl rfl, ?_⟩
      exact hErr _ _ hz (by rw [hE, if_pos hz]) (hend _ _)
    have hzb : (!ieqB ((argsE chk w a : Nat) : Int) 0) = false := by rw [ieqB_eq]; simpa using hz
    rw [if_neg (by rw [hz]; simp)] at hE
    refine yG ?_
    repeat refine LS.seq ?_
    refine LS.drawn noGo mixed [(0, false), (1, false), (2, false), (3, false), (4, false), (5, false), (6, true)] rfl rfl (by kernel_rfl) ?_
    refine yG ?_
    refine ODS.at1 (j := 0) (hlsL) (hg0) rfl rfl rfl rfl rfl rfl rfl (fun ra2 oa2 rowa2 csa2 ma2 ca2 ga2 => ⟨_, rfl, ?_⟩)
    refine ODS.read rfl rfl (e_loadm ma2 ca2 rfl rfl (part_one rfl ga2)) rfl ?_
    refine yG ?_
    refine ODS.sliceWO rfl 1 hlvB (mL2 _ _) rfl rfl rfl rfl rfl rfl (by simp) fun av2 hav2 => ⟨_, rfl, ?_⟩
    have hav2 : Wd (Y ++ B) av2 a := hav2
    refine ODS.call rfl rfl (fun _ => rfl) ((twice_ct hit hiI (fun p hp => List.mem_cons_of_mem _ (List.mem_cons_of_mem _ hp)) (hav2.mono (mL2 _ _)) (by omega) hax h1).mono ?_)
    rintro u L' ⟨rfl, rfl⟩
    refine ⟨_, rfl, ?_, ?_⟩
    · exact Keep.gone rfl (Keep.gone rfl Keep.nil)
    rcases tf (Pd.twice y.items w a) with htw | htw
    · rw [htw]
      refine yG ?_
      refine LS.ret ⟨_, res_cell2 0 rfl rfl rfl rfl rfl, ?_⟩
      exact hErr 6 _ (by decide) (by rw [hE, if_pos htw]) (hend _ _)
    rw [htw]
    rw [if_neg (by rw [htw]; simp)] at hE
    by_cases hfull : 40 ≤ y.items.length
    · have hb : ileB 40 ((y.items.length : Nat) : Int) = true := by rw [ileB_eq]; simp; omega
      refine yG ?_
      refine LS.ret ⟨_, res_cell2 0 rfl rfl rfl rfl rfl, ?_⟩
      exact hErr 3 _ (by decide) (by rw [hE, if_pos hfull]) (hend _ _)
    have hb : ileB 40 ((y.items.length : Nat) : Int) = false := by rw [ileB_eq]; simp; omega
    rw [if_neg hfull] at hE
    rw [hE]
    clear hE hErr
    have e2 : (Dc.mk hd (S ++ [y])).add ⟨no, w, a⟩ = ⟨hd, S ++ [⟨y.no, y.kind, y.name, y.items ++ [⟨no, w, a⟩]⟩]⟩ := add_last ..
    rw [e2]
    have hok2 : RdOk ⟨hd, S ++ [⟨y.no, y.kind, y.name, y.items ++ [(⟨no, w, a⟩ : It)]⟩]⟩ := ⟨hok.ok.add (by omega), hok.head, fun s hs => by
      rcases List.mem_append.1 hs with hs | hs
      · exact hok.secs s (List.mem_append_left _ hs)
      · simp at hs; subst hs; exact ax_snoc (hok.secs y (by simp)) h1⟩
    have hlen := hy'.len
    refine yG ?_
    repeat refine LS.seq ?_
    refine LS.sub (Sub.sums (A := (r6, ARow.cells tDd [.slice none 0 0, .slice none 0 0]) :: (r3, ARow.cells tDd [.slice hA hn hc, .slice (some ⟨rS, 0, none⟩) (S.length + 1) openCap]) :: (rS, .cells tZ (cs0 ++ secC y.no y.kind y.name (.slice ivA y.items.length ivc))) :: (IY ++ (HY ++ (Y ++ F)))) fun f => by simp <;> omega) ?_
    have mN : ∀ x y z, ∀ p, p ∈ Y ++ B → p ∈ x :: y :: z :: (IY ++ (HY ++ (Y ++ F))) := fun x y z p hp => by
      rcases List.mem_append.1 hp with h | h
      · simp [h]
      · simp [hBF p h]
    repeat refine LS.seq ?_
    refine LS.drawn noGo mixed [(0, false), (1, false), (2, false), (3, false), (4, false), (5, false), (6, false), (7, false), (8, true), (9, true), (10, false)] rfl rfl (by kernel_rfl) ?_
    refine yG ?_
    refine ODS.at1 (j := 0) (hlvB.sv.up (mN _ _ _)) (hg0) rfl rfl rfl rfl rfl rfl rfl (fun ra2 oa2 rowa2 csa2 ma2 ca2 ga2 => ⟨_, rfl, ?_⟩)
    refine ODS.read rfl rfl (e_loadm ma2 ca2 rfl rfl (part_one rfl ga2)) rfl ?_
    refine yG ?_
    refine ODS.sliceWO rfl 1 hlvB (mN _ _ _) rfl rfl rfl rfl rfl rfl (by simp) fun av3 hav3 => ⟨_, rfl, ?_⟩
    have hav3 : Wd (Y ++ B) av3 a := hav3
    obtain ⟨avA, avc, rfl⟩ := hav3.form
    refine yG ?_
    refine ODS.fresh rfl rfl (e_new (fun _ => rfl) rfl) (fun _ => rfl) (fun _ => Keep.gone rfl (Keep.gone rfl Keep.nil)) (fun rt => ?_)
    refine ODS.fresh rfl rfl (e_appendGV [(rt, _), (r6, _), (r3, _), (rS, _)] (e := tJ) (sz := 3) (bts := 48) (m := 1) (hg'.appendR (HY ++ (Y ++ F))) (SV.row (sz := 3) (n := 1) (List.mem_cons_self ..) rfl) (by omega) rfl rfl rfl rfl (by omega) (by omega)) (fun _ => rfl) (fun _ => Keep.gone rfl (Keep.gone rfl Keep.nil)) (fun r2 => ?_)
    refine yG ?_
    refine OS.pure rfl (e_index (j := S.length + 1 - 1) (sz := 4) rfl rfl rfl rfl rfl (by omega)) rfl ?_
    refine yG ?_
    refine OS.write rfl (e_store 4 (n := 1) rfl rfl rfl rfl rfl rfl (lay_last2 hl) rfl) rfl ?_
    refine yG ?_
    refine LS.ret ⟨_, res_cell2 2 rfl rfl rfl rfl rfl, ?_⟩
    refine ⟨HY ++ ([(rS, .cells tZ (cs0 ++ secC y.no y.kind y.name (.slice (some ⟨r2, 0, none⟩) (y.items.length + 1) openCap)))] ++ ([(r2, .cells tJ (ics ++ [.int .i64 no, str w, .slice avA a.length avc]))] ++ (Y ++ F))), ?_, _, Y, rfl, _, _, HY, _, _, rfl, rfl, hBF, hok2, .some (y := ⟨y.no, y.kind, y.name, y.items ++ [⟨no, w, a⟩]⟩) hh' hI' hS' ?_ (hy'.snoc (x := ⟨no, w, a⟩) hav3)⟩
    · refine Sub.trans (Sub.sums fun f => ?_) (Sub.trans (Sub.drop 1 rfl) (Sub.trans (Sub.drop 1 rfl) (Sub.drop 1 rfl)))
      simp [secC] <;> omega
    · rw [List.length_append]
      exact .of (by simp [hlen]; omega)
end
end Go.Proofs.YtllcbjaajffaeaaGreatDoor
namespace Go.Proofs.YtllcbjaajffaeaaGreatDoor
set_option linter.unusedSimpArgs false
open Go.Am Go.Pd
set_option linter.unusedVariables false
set_option maxRecDepth 20000
set_option maxHeartbeats 8000000
attribute [local irreducible] OS LSr ODS CS YS
def RX2 (v : Value) (d : Dc) (Y B C : RL) : Prop := ∀ F', (∀ p, p ∈ B → p ∈ F') → RS v d Y B F' (C ++ F')
section
variable {F L Y B : RL} {d : Dc} {v : Value}
theorem RS.dx (h : RS v d Y B F L) : ∃ C, L = C ++ F ∧ RX2 v d Y B C := by
  obtain ⟨hv, sv, HY, SY, IY, rfl, rfl, hBF, hok, hD⟩ := h
  exact ⟨HY ++ (SY ++ (IY ++ Y)), by simp, fun F' hB => ⟨hv, sv, HY, SY, IY, rfl, by simp, hB, hok, hD⟩⟩
theorem RS.form (h : RS v d Y B F L) : ∃ A n c A' n' c', v = .agg #[.slice A n c, .slice A' n' c'] := by
  obtain ⟨hv, sv, HY, SY, IY, rfl, rfl, hBF, hok, hD⟩ := h
  obtain ⟨⟨A, n, c, rfl⟩, A', n', c', rfl⟩ := docD_forms hD
  exact ⟨_, _, _, _, _, _, rfl⟩
theorem RX2.row {C : RL} (h : RX2 v d Y B C) (x : Nat × ARow) : ∃ C', RX2 v d (x :: Y) B C' ∧ ∀ G, Sub (C' ++ G) (x :: (C ++ G)) := by
  obtain ⟨hv, sv, HY, SY, IY, rfl, hC, hBF, hok, hD⟩ := h B fun p hp => hp
  have hC : C = HY ++ (SY ++ (IY ++ Y)) := List.append_cancel_right (bs := B) (by rw [hC]; simp)
  subst hC
  exact ⟨HY ++ (SY ++ (IY ++ (x :: Y))), fun F' hB => ⟨hv, sv, HY, SY, IY, rfl, by simp, hB, hok, hD.mono fun p hp => List.mem_cons_of_mem _ hp⟩, fun G => Sub.sums fun f => by simp <;> omega⟩
theorem RX2.docV {C : RL} (h : RX2 v d Y B C) (hB : ∀ p, p ∈ B → p ∈ F) : DocV (C ++ F) v d := by
  obtain ⟨hv, sv, HY, SY, IY, rfl, hC, hBF, hok, hD⟩ := h F hB
  rw [hC]
  obtain ⟨⟨hcs, hh, hI⟩, scs, hS, hSR⟩ := docD (L := HY ++ (SY ++ (IY ++ (Y ++ F)))) hD (fun p hp => by
    rcases List.mem_append.1 hp with h | h
    · simp [h]
    · simp [hB p h]) (fun p hp => by simp [hp]) (fun p hp => by simp [hp]) (fun p hp => by simp [hp])
  exact ⟨hv, sv, hcs, scs, rfl, hh, hI, hS, hSR⟩
theorem RX2.nil : RX2 (.agg #[.slice none 0 0, .slice none 0 0]) ⟨[], []⟩ [] B [] := fun F' hB => ⟨_, _, [], [], [], rfl, rfl, hB, .none, .none (.inl ⟨rfl, rfl, rfl, rfl⟩) rfl⟩
end
end Go.Proofs.YtllcbjaajffaeaaGreatDoor
