import Derived.Test.YtllcbjaajffaeaaGreatDoorQb
import Derived.Test.YtllcbjaajffaeaaGreatDoorQc
import Derived.Test.YtllcbjaajffaeaaGreatDoorQf
import Derived.Test.YtllcbjaajffaeaaGreatDoorWlM
namespace Go.Proofs.YtllcbjaajffaeaaGreatDoor
set_option linter.unusedSimpArgs false
open Go.Am Go.Pd
set_option linter.unusedVariables false
set_option maxRecDepth 20000
set_option maxHeartbeats 8000000
attribute [local irreducible] OS LSr ODS CS YS
structure RdOk (d : Dc) : Prop where
  ok : DcOk d
  head : AxOk d.head
  secs : ∀ s, s ∈ d.secs → AxOk s.items
theorem RdOk.none : RdOk ⟨[], []⟩ := ⟨⟨by simp, by simp, rfl, by decide, by decide⟩, fun x h => (by cases h), fun s h => (by cases h)⟩
theorem ax_snoc {l : List It} {x : It} (h : AxOk l) (hx : x.word = kAxis → x.args ≠ []) : AxOk (l ++ [x]) := fun y hy => by
  rcases List.mem_append.1 hy with hy | hy
  · exact h y hy
  · simp at hy; subst hy; exact hx
theorem ax_last {d : Dc} (h : RdOk d) : AxOk d.last.2 := by
  unfold Dc.last
  cases hg : d.secs.getLast? with
  | none => exact h.head
  | some s => exact h.secs s (List.mem_of_getLast? hg)
def RS (v : Value) (d : Dc) (Y B F L : RL) : Prop := ∃ hv sv HY SY IY, v = .agg #[hv, sv] ∧ L = HY ++ (SY ++ (IY ++ (Y ++ F))) ∧ (∀ p, p ∈ B → p ∈ F) ∧ RdOk d ∧ DocM tJ tZ (Y ++ B) hv sv d HY SY IY
def ResR (B F : RL) (e : Except Nat Dc) (u : Value) (L' : RL) : Prop := match e with
  | .error k => (∃ A n c A' n' c', u = .tuple #[.agg #[.slice A n c, .slice A' n' c'], .int .i64 (k : Nat)]) ∧ k ≠ 0 ∧ Ends F L'
  | .ok d' => ∃ v' Y', u = .tuple #[v', .int .i64 0] ∧ RS v' d' Y' B F L'
def secE (d : Dc) (no : Int) (w : W) (a : List W) : Except Nat Dc := match a with
  | [n] => if nameB n = false then .error 63 else if (d.secs.any fun s => s.kind == kindOf w && decide (s.name = n)) = true then .error 6 else if 24 ≤ cnt d (kindOf w) then .error 3 else .ok ⟨d.head, d.secs ++ [⟨no, kindOf w, n, []⟩]⟩
  | _ => .error 4
section
variable {F L Y B : RL} {d : Dc}
theorem docD_forms {t t' : TypeId} {M HY SY IY : RL} {hv sv : Value} (h : DocM t t' M hv sv d HY SY IY) : (∃ A n c, hv = .slice A n c) ∧ ∃ A n c, sv = .slice A n c := by
  cases h with
  | none hh hi => exact ⟨by rcases hh with ⟨rfl, _⟩ | ⟨r, rfl, _⟩ <;> exact ⟨_, _, _, rfl⟩, _, _, _, rfl⟩
  | some hh hi hS hg hy => exact ⟨by rcases hh with ⟨rfl, _⟩ | ⟨r, rfl, _⟩ <;> exact ⟨_, _, _, rfl⟩, _, _, _, rfl⟩
theorem docD {t t' : TypeId} {M HY SY IY : RL} {hv sv : Value} (h : DocM t t' M hv sv d HY SY IY) (hm : ∀ p, p ∈ M → p ∈ L) (h1 : ∀ p, p ∈ HY → p ∈ L) (h2 : ∀ p, p ∈ SY → p ∈ L) (h3 : ∀ p, p ∈ IY → p ∈ L) : (∃ hcs, SV 3 L hv d.head.length hcs ∧ ItsR L d.head hcs) ∧ ∃ scs, SV 4 L sv d.secs.length scs ∧ SecsR L d.secs scs := by
  cases h with
  | none hh hi => exact ⟨⟨_, hh.sv.up h1, hi.mono hm⟩, [], .inl ⟨rfl, rfl, rfl⟩, rfl⟩
  | some hh hi hS hg hy =>
    rename_i hd cs S y cs0 ics iv rS
    have hl := hS.len
    have hgs : GV t' 4 [] (.slice (some ⟨rS, 0, none⟩) (S.length + 1) openCap) (S.length + 1) (cs0 ++ secC y.no y.kind y.name iv) ((rS, .cells t' (cs0 ++ secC y.no y.kind y.name iv)) :: []) := .inr ⟨rS, rfl, by simp [hl]; omega, rfl⟩
    exact ⟨⟨_, hh.sv.up h1, hi.mono hm⟩, _, by rw [List.length_append]; exact hgs.sv.up h2, (hS.mono hm).snoc ⟨hg.sv.up h3, hy.mono hm⟩⟩
theorem RdOk.begin {no : Int} {w n : W} (h : RdOk d) (hc : cnt d (kindOf w) < 24) : RdOk ⟨d.head, d.secs ++ [⟨no, kindOf w, n, []⟩]⟩ := ⟨h.ok.begin hc, h.head, fun s hs => by
  rcases List.mem_append.1 hs with hs | hs
  · exact h.secs s hs
  · simp at hs; subst hs; intro x hx; cases hx⟩
theorem any_take {A : Type} {p : A → Bool} {l : List A} {j : Nat} {x : A} (hx : l[j]? = some x) : ((l.take (j + 1)).filter p).length = ((l.take j).filter p).length + if p x then 1 else 0 := by
  rw [Go.Pd.take_one hx, List.filter_append, List.length_append]
  congr 1
  cases h : p x <;> simp [h]
theorem lay_last2 {cs0 : List Value} {n : Nat} {a b c u v : Value} (hl : cs0.length = n * 4) : lay (cs0 ++ [a, b, c, u]) (0 + (n + 1 - 1) * 4 + 3) [v] = some (cs0 ++ [a, b, c, v]) := by
  rw [Nat.zero_add, Nat.add_sub_cancel]; exact lay_last hl
theorem line_ct {no : Int} {w : W} {a : List W} {v lv : Value} (h : RS v d Y B F L) (hlvB : Wd (Y ++ B) lv (w :: a)) (ha : a.length ≤ 400) (hbd : ∀ x, x ∈ w :: a → x.length ≤ 1000) : CS Tryz.prog 42 [v, .int .i64 no, lv] L fun u L' => ResR B F (LN d no w a) u L' := by
  obtain ⟨hv, sv, HY, SY, IY, rfl, rfl, hBF, hok, hD⟩ := h
  have mYB : ∀ p, p ∈ Y ++ B → p ∈ HY ++ (SY ++ (IY ++ (Y ++ F))) := fun p hp => by
    rcases List.mem_append.1 hp with h | h
    · simp [h]
    · simp [hBF p h]
  have hlv := hlvB.mono mYB
  obtain ⟨lA, lc, rfl⟩ := hlv.form
  obtain ⟨⟨hcs, hh, hI⟩, scs, hS, hSR⟩ := docD hD mYB (fun p hp => by simp [hp]) (fun p hp => by simp [hp]) (fun p hp => by simp [hp])
  obtain ⟨⟨hA, hn, hc, rfl⟩, sA, sn, sc, rfl⟩ := docD_forms hD
  have hls := hlv.sv
  have hslen : d.secs.length ≤ 48 := by have h1 := hok.ok.secs; have h2 := hok.ok.c1; have h3 := hok.ok.c2; omega
  suffices h2 : CS Tryz.prog 42 [.agg #[.slice hA hn hc, .slice sA sn sc], .int .i64 no, .slice lA (w :: a).length lc] (HY ++ (SY ++ (IY ++ (Y ++ F)))) fun u L' => ∃ L₁, Sub L₁ L' ∧ ResR B F (LN d no w a) u L₁ from h2.less fun v L' h => h
  have hErr : ∀ k L', k ≠ 0 → LN d no w a = .error k → Ends F L' → ∃ L₁, Sub L₁ L' ∧ ResR B F (LN d no w a) (.tuple #[.agg #[.slice hA hn hc, .slice sA sn sc], .int .i64 (k : Nat)]) L₁ := fun k L' hk he hend => ⟨L', Sub.drops 0 rfl, by rw [he]; exact ⟨⟨_, _, _, _, _, _, rfl⟩, hk, hend⟩⟩
  refine CS.mk (fn := Tryz.f42) rfl rfl rfl rfl ?_
  refine yG ?_
  refine OS.fresh rfl (e_new (fun _ => rfl) rfl) (fun _ => rfl) (fun r3 => ?_)
  show OS _ _ _ _ ((r3, ARow.cells tDd [.slice hA hn hc, .slice sA sn sc]) :: _) _
  refine yG ?_
  refine OS.fresh rfl (e_new (fun _ => rfl) rfl) (fun _ => rfl) (fun r6 => ?_)
  show OS _ _ _ _ ((r6, ARow.cells tDd [.slice none 0 0, .slice none 0 0]) :: _) _
  have hend : ∀ x y, Ends F (x :: y :: (HY ++ (SY ++ (IY ++ (Y ++ F))))) := fun x y => by repeat (first | exact Ends.nil | apply Ends.cons | apply Ends.app)
  have hg0 : (strs (w :: a))[0]? = some (str w) := rfl
  have hlsL : SV 1 ((r6, ARow.cells tDd [.slice none 0 0, .slice none 0 0]) :: (r3, ARow.cells tDd [.slice hA hn hc, .slice sA sn sc]) :: (HY ++ (SY ++ (IY ++ (Y ++ F))))) (.slice lA (w :: a).length lc) (w :: a).length (strs (w :: a)) := hls.up fun p hp => List.mem_cons_of_mem _ (List.mem_cons_of_mem _ hp)
  have hSL : SV 4 ((r6, ARow.cells tDd [.slice none 0 0, .slice none 0 0]) :: (r3, ARow.cells tDd [.slice hA hn hc, .slice sA sn sc]) :: (HY ++ (SY ++ (IY ++ (Y ++ F))))) (.slice sA sn sc) d.secs.length scs := hS.up fun p hp => List.mem_cons_of_mem _ (List.mem_cons_of_mem _ hp)
  refine yG ?_
  refine OS.at1 (j := 0) (hlsL) (hg0) rfl rfl rfl rfl rfl rfl (fun ra0 oa0 rowa0 csa0 ma0 ca0 ga0 => ⟨_, rfl, ?_⟩)
  refine OS.read rfl (e_loadm ma0 ca0 rfl rfl (part_one rfl ga0)) rfl ?_
  by_cases hsec : w = kTemplate ∨ w = kJob
  · have hcases : (bytesEq w [116, 101, 109, 112, 108, 97, 116, 101] = true ∧ bytesEq w [106, 111, 98] = false ∧ kindOf w = 1) ∨ (bytesEq w [116, 101, 109, 112, 108, 97, 116, 101] = false ∧ bytesEq w [106, 111, 98] = true ∧ kindOf w = 2) := by
      rcases hsec with rfl | rfl
      · exact .inl ⟨rfl, rfl, rfl⟩
      · exact .inr ⟨rfl, rfl, rfl⟩
    have hE : LN d no w a = secE d no w a := by
      show line chk d no w a = _
      unfold line
      rw [if_pos hsec]
      cases a with
      | nil => rfl
      | cons x r => cases r <;> rfl
    rcases hcases with ⟨c1, c2, hk⟩ | ⟨c1, c2, hk⟩
    rotate_left
    refine yG ?_
    refine OS.at1 (j := 0) (hlsL) (hg0) rfl rfl rfl rfl rfl rfl (fun ra0 oa0 rowa0 csa0 ma0 ca0 ga0 => ⟨_, rfl, ?_⟩)
    refine OS.read rfl (e_loadm ma0 ca0 rfl rfl (part_one rfl ga0)) rfl ?_
    all_goals
      by_cases hla : a.length = 1
      rotate_left
      · have hb : (!ieqB (((w :: a).length : Nat) : Int) 2) = true := by rw [ieqB_eq]; simp; omega
        have hE4 : LN d no w a = .error 4 := by
          rw [hE]
          match a, hla with
          | [], _ => rfl
          | [_], h => exact absurd rfl h
          | _ :: _ :: _, _ => rfl
        refine yG ?_
        refine LS.ret ⟨_, res_cell2 0 rfl rfl rfl rfl rfl, ?_⟩
        exact hErr 4 _ (by decide) hE4 (hend _ _)
      obtain ⟨n, rfl⟩ : ∃ n, a = [n] := by
        match a, hla with
        | [n], _ => exact ⟨n, rfl⟩
      have hg1 : (strs (w :: [n]))[1]? = some (str n) := rfl
      have hb : (!ieqB (((w :: [n]).length : Nat) : Int) 2) = false := rfl
      have hnl := hbd n (by simp)
      refine yG ?_
      refine OS.at1 (j := 1) (hlsL) (hg1) rfl rfl rfl rfl rfl rfl (fun ra0 oa0 rowa0 csa0 ma0 ca0 ga0 => ⟨_, rfl, ?_⟩)
      refine OS.read rfl (e_loadm ma0 ca0 rfl rfl (part_one rfl ga0)) rfl ?_
      refine OS.call noGo rfl (fun _ => rfl) ((refName_ct n (by omega)).mono ?_)
      rintro v L' ⟨rfl, hL⟩
      rw [hL]
      clear hL
      refine ⟨_, rfl, ?_⟩
      rcases tf (nameB n) with hx | hx
      rotate_left
      · rw [hx]
        refine yG ?_
        refine LS.ret ⟨_, res_cell2 0 rfl rfl rfl rfl rfl, ?_⟩
        exact hErr 63 _ (by decide) (by rw [hE]; simp [secE, hx]) (hend _ _)
      rw [hx]
      have hE' : LN d no w [n] = if (d.secs.any fun s => s.kind == kindOf w && decide (s.name = n)) = true then Except.error 6 else if 24 ≤ cnt d (kindOf w) then .error 3 else .ok ⟨d.head, d.secs ++ [⟨no, kindOf w, n, []⟩]⟩ := by rw [hE]; simp [secE, hx]
      generalize hP : (fun s : Se => s.kind == kindOf w && decide (s.name = n)) = P at hE'
      generalize hK : (fun s : Se => s.kind == kindOf w) = K
      have hPy : ∀ y : Se, P y = (y.kind == kindOf w && decide (y.name = n)) := fun y => by rw [← hP]
      have hKy : ∀ y : Se, K y = (y.kind == kindOf w) := fun y => by rw [← hK]
      refine yG ?_
      refine OS.at1 (j := 0) (hlsL) (hg0) rfl rfl rfl rfl rfl rfl (fun ra0 oa0 rowa0 csa0 ma0 ca0 ga0 => ⟨_, rfl, ?_⟩)
      refine OS.read rfl (e_loadm ma0 ca0 rfl rfl (part_one rfl ga0)) rfl ?_
      refine yG ?_
      refine LS.loopJ [1, 2, 3, 6, 8, 9, 10] (fun q s L' => ∃ j : Nat, q = d.secs.length - j ∧ j ≤ d.secs.length ∧ (d.secs.take j).any P = false ∧ L' = (r6, ARow.cells tDd [.slice none 0 0, .slice none 0 0]) :: (r3, ARow.cells tDd [.slice hA hn hc, .slice sA sn sc]) :: (HY ++ (SY ++ (IY ++ (Y ++ F)))) ∧ s = [.chan none, .int .i64 no, .slice lA (w :: [n]).length lc, ptr r3, .chan none, .chan none, ptr r6, .chan none, .int .u8 ((kindOf w).toNat : Nat), .int .i64 (((d.secs.take j).filter K).length : Nat), .int .i64 (j : Nat), .chan none, .chan none, .chan none, .chan none, .chan none, .chan none, .chan none, .chan none, .chan none, .chan none, .chan none, .chan none, .chan none, .chan none, .chan none, .chan none, .chan none, .chan none, .chan none, .chan none, .chan none, .chan none, .chan none, .chan none, .chan none, .chan none, .chan none, .chan none, .chan none, .chan none, .chan none, .chan none, .chan none, .chan none, .chan none, .chan none, .chan none, .chan none, .chan none, .chan none, .chan none, .chan none, .chan none, .chan none, .chan none, .chan none, .chan none, .chan none, .chan none, .chan none, .chan none, .chan none, .chan none, .chan none, .chan none, .chan none, .chan none, .chan none, .chan none, .chan none, .chan none, .chan none, .chan none, .chan none, .chan none, .chan none, .chan none, .chan none, .chan none, .chan none, .chan none, .chan none, .chan none, .chan none, .chan none, .chan none, .chan none, .chan none, .chan none, .chan none, .chan none, .chan none, .chan none, .chan none, .chan none, .chan none, .chan none, .chan none, .chan none, .chan none, .chan none, .chan none, .chan none, .chan none, .chan none, .chan none, .chan none, .chan none, .chan none, .chan none, .chan none, .chan none, .chan none, .chan none, .chan none, .chan none, .chan none, .chan none, .chan none, .chan none, .chan none, .chan none, .chan none, .chan none, .chan none, .chan none, .chan none, .chan none, .chan none, .chan none, .chan none, .chan none, .chan none, .chan none, .chan none, .chan none, .chan none, .chan none, .chan none, .chan none, .chan none, .chan none, .chan none, .chan none, .chan none, .chan none, .chan none, .chan none, .chan none, .chan none, .chan none, .chan none, .chan none, .chan none, .chan none, .chan none, .chan none]) (n := d.secs.length) rfl ⟨0, rfl, by omega, rfl, rfl, by rw [hk]; rfl⟩ ?_
      rintro q s L' ⟨j, rfl, hj, hA0, rfl, rfl⟩
      by_cases hjn : j < d.secs.length
      · have hb2 : (!ileB ((d.secs.length : Nat) : Int) (j : Nat)) = true := by rw [ileB_eq]; simp; omega
        have hxj : d.secs[j]? = some d.secs[j] := List.getElem?_eq_getElem hjn
        generalize d.secs[j] = y at hxj
        obtain ⟨iv, ics, hcut, hiv, hyI⟩ := hSR.at hxj
        have hml : ((d.secs.take j).filter K).length ≤ d.secs.length := Nat.le_trans (List.length_filter_le _ _) (by rw [List.length_take]; omega)
        refine yG ?_
        refine OS.at (j := j) hSL hjn rfl rfl rfl rfl rfl rfl (fun r0 o0 row0 cs0 m0 d0 g0 k0 => ?_)
        refine ⟨_, rfl, ?_⟩
        refine yG ?_
        refine OS.read rfl (e_loadm m0 d0 rfl rfl (part_one rfl (g0 1 (.int .u8 (y.kind.toNat : Nat)) (by decide) (cut_get hcut (j := 1) rfl)))) rfl ?_
        by_cases hyk : y.kind = kindOf w
        · have ck : ieqB ((y.kind.toNat : Nat) : Int) ((kindOf w).toNat : Nat) = true := by rw [hyk, ieqB_eq]; simp
          have hKt : K y = true := by rw [hKy, hyk]; simp
          refine yG ?_
          repeat refine LS.seq ?_
          refine LS.drawn noGo mixed [(0, false), (1, false), (2, false), (3, false), (4, false), (5, false), (6, false), (7, false), (8, false), (9, false)] rfl rfl (by kernel_rfl) ?_
          refine yG ?_
          refine ODS.at (j := j) hSL hjn rfl rfl rfl rfl rfl rfl rfl (fun r1 o1 row1 cs1 m1 d1 g1 k1 => ?_)
          refine ⟨_, rfl, ?_⟩
          refine yG ?_
          refine ODS.read rfl rfl (e_loadm m1 d1 rfl rfl (part_one rfl (g1 2 (str y.name) (by decide) (cut_get hcut (j := 2) rfl)))) rfl ?_
          refine yG ?_
          refine ODS.at1 (j := 1) (hlsL) (hg1) rfl rfl rfl rfl rfl rfl rfl (fun ra2 oa2 rowa2 csa2 ma2 ca2 ga2 => ⟨_, rfl, ?_⟩)
          refine ODS.read rfl rfl (e_loadm ma2 ca2 rfl rfl (part_one rfl ga2)) rfl ?_
          by_cases hyn : y.name = n
          · have cy : bytesEq y.name n = true := by rw [beq_bytes]; exact decide_eq_true hyn
            refine yG ?_
            refine LS.ret ⟨_, res_cell2 0 rfl rfl rfl rfl rfl, ?_⟩
            exact hErr 6 _ (by decide) (by rw [hE', if_pos (any_stop hxj (by rw [hPy, hyk, hyn]; simp))]) (hend _ _)
          · have cy : bytesEq y.name n = false := by rw [beq_bytes]; exact decide_eq_false hyn
            refine yG ?_
            exact ⟨d.secs.length - (j + 1), by omega, j + 1, rfl, by omega, any_step hxj hA0 (by rw [hPy, decide_eq_false hyn, Bool.and_false]), rfl, by rw [any_take hxj, if_pos hKt]; rfl⟩
        · have ck : ieqB ((y.kind.toNat : Nat) : Int) ((kindOf w).toNat : Nat) = false := by rw [u8_is]; exact decide_eq_false hyk
          have hKt : ¬ K y = true := by rw [hKy]; simpa using hyk
          refine yG ?_
          exact ⟨d.secs.length - (j + 1), by omega, j + 1, rfl, by omega, any_step hxj hA0 (by rw [hPy]; simp [hyk]), rfl, by rw [any_take hxj, if_neg hKt]; rfl⟩
      have hb2 : (!ileB ((d.secs.length : Nat) : Int) (j : Nat)) = false := by rw [ileB_eq]; simp; omega
      rw [List.take_of_length_le (by omega)] at hA0
      have hcn : ((d.secs.take j).filter K).length = cnt d (kindOf w) := by rw [List.take_of_length_le (by omega), ← hK]; rfl
      refine yG ?_
      refine LS.exit ?_
      rw [hcn]
      by_cases hf : 24 ≤ cnt d (kindOf w)
      · have hb3 : ileB 24 ((cnt d (kindOf w) : Nat) : Int) = true := by rw [ileB_eq]; simp; omega
        refine yG ?_
        refine LS.ret ⟨_, res_cell2 0 rfl rfl rfl rfl rfl, ?_⟩
        exact hErr 3 _ (by decide) (by rw [hE', if_neg (by rw [hA0]; simp), if_pos hf]) (hend _ _)
      have hb3 : ileB 24 ((cnt d (kindOf w) : Nat) : Int) = false := by rw [ileB_eq]; simp; omega
      have hE2 : LN d no w [n] = .ok ⟨d.head, d.secs ++ [⟨no, kindOf w, n, []⟩]⟩ := by rw [hE', if_neg (by rw [hA0]; simp), if_neg hf]
      have hok2 := hok.begin (no := no) (w := w) (n := n) (by omega)
      rw [hE2]
      clear hE hE' hErr hA0
      refine yG ?_
      cases hD with
      | none hh' hI' =>
        repeat refine LS.seq ?_
        refine LS.drawn noGo mixed [(0, false), (1, false), (2, false), (3, false), (4, false), (5, false), (6, false), (7, false), (8, true), (9, true), (10, false), (11, true)] rfl rfl (by kernel_rfl) ?_
        refine yG ?_
        refine ODS.at1 (j := 1) (hlsL) (hg1) rfl rfl rfl rfl rfl rfl rfl (fun ra2 oa2 rowa2 csa2 ma2 ca2 ga2 => ⟨_, rfl, ?_⟩)
        refine ODS.read rfl rfl (e_loadm ma2 ca2 rfl rfl (part_one rfl ga2)) rfl ?_
        refine yG ?_
        refine ODS.fresh rfl rfl (e_new (fun _ => rfl) rfl) (fun _ => rfl) (fun _ => Keep.gone rfl (Keep.cons rfl (e_load 2 rfl rfl rfl rfl rfl) Keep.nil)) (fun rt => ?_)
        refine ODS.fresh rfl rfl (e_appendGV [(rt, _), (r6, _), (r3, _)] (e := tZ) (sz := 4) (bts := 56) (m := 1) GV.nil (SV.row (sz := 4) (n := 1) (List.mem_cons_self ..) rfl) (by omega) rfl rfl rfl rfl (by omega) (by omega)) (fun _ => rfl) (fun _ => Keep.gone rfl (Keep.gone rfl Keep.nil)) (fun r2 => ?_)
        refine yG ?_
        refine ODS.write rfl rfl (e_store 3 rfl rfl rfl rfl rfl rfl rfl rfl) rfl (Keep.gone rfl (Keep.gone rfl Keep.nil)) ?_
        refine yG ?_
        refine LS.ret ⟨_, res_cell2 2 rfl rfl rfl rfl rfl, ?_⟩
        refine ⟨HY ++ ([(r2, .cells tZ ([] ++ secC no (kindOf w) n (.slice none 0 0)))] ++ ([] ++ (Y ++ F))), ?_, _, Y, rfl, _, _, HY, _, _, rfl, rfl, hBF, hok2, .some (S := []) (y := ⟨no, kindOf w, n, []⟩) (cs0 := []) hh' hI' rfl .nil rfl⟩
        refine Sub.trans (Sub.sums fun f => ?_) (Sub.trans (Sub.drop 1 rfl) (Sub.trans (Sub.drop 1 rfl) (Sub.drop 1 rfl)))
        simp [secC] <;> omega
      | @some hd cs HY IY S y cs0 ics iv rS hh' hI' hS' hg' hy' =>
        have m1 : ∀ p, p ∈ Y ++ B → p ∈ (IY ++ Y) ++ B := fun p hp => by rw [List.append_assoc]; exact List.mem_append_right _ hp
        have m2 : ∀ p, p ∈ IY ++ (Y ++ B) → p ∈ (IY ++ Y) ++ B := fun p hp => by rw [List.append_assoc]; exact hp
        have hl := hS'.len
        have hgs : GV tZ 4 (HY ++ (IY ++ (Y ++ F))) (.slice (some ⟨rS, 0, none⟩) (S.length + 1) openCap) (S.length + 1) (cs0 ++ secC y.no y.kind y.name iv) ((rS, .cells tZ (cs0 ++ secC y.no y.kind y.name iv)) :: (HY ++ (IY ++ (Y ++ F)))) := .inr ⟨rS, rfl, by simp [hl]; omega, rfl⟩
        have hsl : S.length + 1 ≤ 48 := by simpa using hslen
        have mN : ∀ x y z, ∀ p, p ∈ Y ++ B → p ∈ x :: y :: z :: (HY ++ (IY ++ (Y ++ F))) := fun x y z p hp => by
          rcases List.mem_append.1 hp with h | h
          · simp [h]
          · simp [hBF p h]
        repeat refine LS.seq ?_
        refine LS.sub (Sub.sums (A := (r6, ARow.cells tDd [.slice none 0 0, .slice none 0 0]) :: (r3, ARow.cells tDd [.slice hA hn hc, .slice (some ⟨rS, 0, none⟩) (S.length + 1) openCap]) :: (rS, .cells tZ (cs0 ++ secC y.no y.kind y.name iv)) :: (HY ++ (IY ++ (Y ++ F)))) fun f => by simp <;> omega) ?_
        repeat refine LS.seq ?_
        refine LS.drawn noGo mixed [(0, false), (1, false), (2, false), (3, false), (4, false), (5, false), (6, false), (7, false), (8, true), (9, true), (10, false), (11, true)] rfl rfl (by kernel_rfl) ?_
        refine yG ?_
        refine ODS.at1 (j := 1) (hlvB.sv.up (mN _ _ _)) (hg1) rfl rfl rfl rfl rfl rfl rfl (fun ra2 oa2 rowa2 csa2 ma2 ca2 ga2 => ⟨_, rfl, ?_⟩)
        refine ODS.read rfl rfl (e_loadm ma2 ca2 rfl rfl (part_one rfl ga2)) rfl ?_
        refine yG ?_
        refine ODS.fresh rfl rfl (e_new (fun _ => rfl) rfl) (fun _ => rfl) (fun _ => Keep.gone rfl (Keep.cons rfl (e_load 2 rfl rfl rfl rfl rfl) Keep.nil)) (fun rt => ?_)
        refine ODS.fresh rfl rfl (e_appendGV [(rt, _), (r6, _), (r3, _)] (e := tZ) (sz := 4) (bts := 56) (m := 1) hgs (SV.row (sz := 4) (n := 1) (List.mem_cons_self ..) rfl) (by omega) rfl rfl rfl rfl (by omega) (by omega)) (fun _ => rfl) (fun _ => Keep.gone rfl (Keep.gone rfl Keep.nil)) (fun r2 => ?_)
        refine yG ?_
        refine ODS.write rfl rfl (e_store 3 rfl rfl rfl rfl rfl rfl rfl rfl) rfl (Keep.gone rfl (Keep.gone rfl Keep.nil)) ?_
        refine yG ?_
        refine LS.ret ⟨_, res_cell2 2 rfl rfl rfl rfl rfl, ?_⟩
        refine ⟨HY ++ ([(r2, .cells tZ ((cs0 ++ secC y.no y.kind y.name iv) ++ secC no (kindOf w) n (.slice none 0 0)))] ++ ([] ++ ((IY ++ Y) ++ F))), ?_, _, IY ++ Y, rfl, _, _, HY, _, _, rfl, rfl, hBF, hok2, (by rw [show S.length + 1 + 1 = (S ++ [y]).length + 1 by simp]; exact .some (S := S ++ [y]) (y := ⟨no, kindOf w, n, []⟩) hh' (hI'.mono m1) ((hS'.mono m1).snoc ⟨(hg'.appendR (Y ++ B)).sv.up m2, hy'.mono m1⟩) .nil rfl)⟩
        refine Sub.trans (Sub.sums fun f => ?_) (Sub.trans (Sub.drop 1 rfl) (Sub.trans (Sub.drop 1 rfl) (Sub.drop 1 rfl)))
        simp [secC] <;> omega
  have c1 : bytesEq w [116, 101, 109, 112, 108, 97, 116, 101] = false := by rw [beq_bytes]; exact decide_eq_false fun h => hsec (.inl h)
  have c2 : bytesEq w [106, 111, 98] = false := by rw [beq_bytes]; exact decide_eq_false fun h => hsec (.inr h)
  have hE : LN d no w a = if Pd.shape w d.last.1 d.last.2.isEmpty a.length = false then Except.error 4 else if argsE chk w a ≠ 0 then .error (argsE chk w a) else if Pd.twice d.last.2 w a then .error 6 else if 40 ≤ d.last.2.length then .error 3 else .ok (d.add ⟨no, w, a⟩) := by
    show line chk d no w a = _
    unfold line
    rw [if_neg hsec]
  have hax := ax_last hok
  have hw1 : 1 ≤ (w :: a).length := by simp
  have hw2 : (w :: a).length ≤ 401 := by simp; omega
  have mL2 : ∀ x y, ∀ p, p ∈ Y ++ B → p ∈ x :: y :: (HY ++ (SY ++ (IY ++ (Y ++ F)))) := fun x y p hp => List.mem_cons_of_mem _ (List.mem_cons_of_mem _ (mYB p hp))
  refine yG ?_
  refine OS.at1 (j := 0) (hlsL) (hg0) rfl rfl rfl rfl rfl rfl (fun ra0 oa0 rowa0 csa0 ma0 ca0 ga0 => ⟨_, rfl, ?_⟩)
  refine OS.read rfl (e_loadm ma0 ca0 rfl rfl (part_one rfl ga0)) rfl ?_
  cases hD with
  | @none it cs HY hh' hI' =>
    obtain ⟨kd, hkd⟩ : ∃ kd : UInt8, kd = 0 := ⟨_, rfl⟩
    have hlast : (Dc.mk it []).last = (kd, it) := by rw [hkd]; rfl
    rw [hlast] at hE hax
    simp only at hE hax
    have hit : SV 3 (HY ++ ([] ++ ([] ++ (Y ++ F)))) (.slice hA hn hc) it.length hcs := hh
    have hiI : ItsR (HY ++ ([] ++ ([] ++ (Y ++ F)))) it hcs := hI
    have hil : it.length ≤ 40 := hok.ok.head
    have hkv : (.int .u8 0 : Value) = .int .u8 (kd.toNat : Nat) := by rw [hkd]; rfl
    refine yG ?_
    refine OS.pure rfl (e_sub rfl rfl rfl rfl) rfl ?_
    rw [hkv]
    refine yG ?_
    refine OS.at1 (j := 0) (hlsL) (hg0) rfl rfl rfl rfl rfl rfl (fun ra0 oa0 rowa0 csa0 ma0 ca0 ga0 => ⟨_, rfl, ?_⟩)
    refine OS.read rfl (e_loadm ma0 ca0 rfl rfl (part_one rfl ga0)) rfl ?_
    refine yG ?_
    refine OS.call noGo rfl (fun _ => rfl) ((shape_ct w kd _ _).mono ?_)
    rintro u L' ⟨rfl, hL⟩
    rw [hL]
    clear hL
    have hsh : Pd.shape w kd (ieqB ((it.length : Nat) : Int) 0) ((w :: a).length - 1) = Pd.shape w kd it.isEmpty a.length := by
      congr 1
      cases it with
      | nil => rfl
      | cons x r => rw [ieqB_eq]; simp; omega
    rw [hsh]
    rcases tf (Pd.shape w kd it.isEmpty a.length) with hs | hs
    rotate_left
    · rw [hs]
      refine ⟨_, rfl, ?_⟩
      refine yG ?_
      refine LS.ret ⟨_, res_cell2 0 rfl rfl rfl rfl rfl, ?_⟩
      exact hErr 4 _ (by decide) (by rw [hE, if_pos hs]) (hend _ _)
    rw [hs]
    have h0 : (w = kTries ∨ w = kLimit) → a ≠ [] := fun h e => by subst e; rcases h with rfl | rfl <;> revert hs <;> simp [sh_Tries, sh_Limit]
    have h1 : w = kAxis → a ≠ [] := fun h e => by subst e; subst h; revert hs; simp [sh_Axis]
    rw [if_neg (by rw [hs]; simp)] at hE
    refine ⟨_, rfl, ?_⟩
    refine yG ?_
    repeat refine LS.seq ?_
    refine LS.drawn noGo mixed [(0, false), (1, false), (2, false), (3, false), (4, false), (5, true), (6, false)] rfl rfl (by kernel_rfl) ?_
    refine yG ?_
    refine ODS.at1 (j := 0) (hlsL) (hg0) rfl rfl rfl rfl rfl rfl rfl (fun ra2 oa2 rowa2 csa2 ma2 ca2 ga2 => ⟨_, rfl, ?_⟩)
    refine ODS.read rfl rfl (e_loadm ma2 ca2 rfl rfl (part_one rfl ga2)) rfl ?_
    refine yG ?_
    refine ODS.sliceWO rfl 1 hlvB (mL2 _ _) rfl rfl rfl rfl rfl rfl (by simp) fun av hav0 => ⟨_, rfl, ?_⟩
    have hav : Wd (Y ++ B) av a := hav0
    refine ODS.call rfl rfl (fun _ => rfl) ((args_ct (hav.mono (mL2 _ _)) (by omega) (fun x hx => hbd x (List.mem_cons_of_mem _ hx)) h0).mono ?_)
    rintro u L' ⟨rfl, rfl⟩
    refine ⟨_, rfl, ?_, ?_⟩
    · exact Keep.gone rfl (Keep.gone rfl Keep.nil)
    by_cases hz : argsE chk w a = 0
    rotate_left
    · have hzb : (!ieqB ((argsE chk w a : Nat) : Int) 0) = true := by rw [ieqB_eq]; simpa using hz
      refine yG ?_
      refine LS.ret ⟨_, res_cell2 0 rfl rfl rfl rfl rfl, ?_⟩
      exact hErr _ _ hz (by rw [hE, if_pos hz]) (hend _ _)
    have hzb : (!ieqB ((argsE chk w a : Nat) : Int) 0) = false := by rw [ieqB_eq]; simpa using hz
    rw [if_neg (by rw [hz]; simp)] at hE
    refine yG ?_
    repeat refine LS.seq ?_
    refine LS.drawn noGo mixed [(0, false), (1, false), (2, false), (3, false), (4, false), (5, false), (6, true)] rfl rfl (by kernel_rfl) ?_
    refine yG ?_
    refine ODS.at1 (j := 0) (hlsL) (hg0) rfl rfl rfl rfl rfl rfl rfl (fun ra2 oa2 rowa2 csa2 ma2 ca2 ga2 => ⟨_, rfl, ?_⟩)
    refine ODS.read rfl rfl (e_loadm ma2 ca2 rfl rfl (part_one rfl ga2)) rfl ?_
    refine yG ?_
    refine ODS.sliceWO rfl 1 hlvB (mL2 _ _) rfl rfl rfl rfl rfl rfl (by simp) fun av2 hav2 => ⟨_, rfl, ?_⟩
    have hav2 : Wd (Y ++ B) av2 a := hav2
    refine ODS.call rfl rfl (fun _ => rfl) ((twice_ct hit hiI (fun p hp => List.mem_cons_of_mem _ (List.mem_cons_of_mem _ hp)) (hav2.mono (mL2 _ _)) (by omega) hax h1).mono ?_)
    rintro u L' ⟨rfl, rfl⟩
    refine ⟨_, rfl, ?_, ?_⟩
    · exact Keep.gone rfl (Keep.gone rfl Keep.nil)
    rcases tf (Pd.twice it w a) with htw | htw
    · rw [htw]
      refine yG ?_
      refine LS.ret ⟨_, res_cell2 0 rfl rfl rfl rfl rfl, ?_⟩
      exact hErr 6 _ (by decide) (by rw [hE, if_pos htw]) (hend _ _)
    rw [htw]
    rw [if_neg (by rw [htw]; simp)] at hE
    by_cases hfull : 40 ≤ it.length
    · have hb : ileB 40 ((it.length : Nat) : Int) = true := by rw [ileB_eq]; simp; omega
      refine yG ?_
      refine LS.ret ⟨_, res_cell2 0 rfl rfl rfl rfl rfl, ?_⟩
      exact hErr 3 _ (by decide) (by rw [hE, if_pos hfull]) (hend _ _)
    have hb : ileB 40 ((it.length : Nat) : Int) = false := by rw [ileB_eq]; simp; omega
    rw [if_neg hfull] at hE
    rw [hE]
    clear hE hErr
    refine yG ?_
    repeat refine LS.seq ?_
    refine LS.drawn noGo mixed [(0, false), (1, false), (2, false), (3, false), (4, false), (5, false), (6, false), (7, false), (8, true), (9, true), (10, false)] rfl rfl (by kernel_rfl) ?_
    refine yG ?_
    refine ODS.at1 (j := 0) (hlsL) (hg0) rfl rfl rfl rfl rfl rfl rfl (fun ra2 oa2 rowa2 csa2 ma2 ca2 ga2 => ⟨_, rfl, ?_⟩)
    refine ODS.read rfl rfl (e_loadm ma2 ca2 rfl rfl (part_one rfl ga2)) rfl ?_
    refine yG ?_
    refine ODS.sliceWO rfl 1 hlvB (mL2 _ _) rfl rfl rfl rfl rfl rfl (by simp) fun av3 hav3 => ⟨_, rfl, ?_⟩
    have hav3 : Wd (Y ++ B) av3 a := hav3
    obtain ⟨avA, avc, rfl⟩ := hav3.form
    refine yG ?_
    refine ODS.fresh rfl rfl (e_new (fun _ => rfl) rfl) (fun _ => rfl) (fun _ => Keep.gone rfl (Keep.gone rfl Keep.nil)) (fun rt => ?_)
    refine ODS.fresh rfl rfl (e_appendGV [(rt, _), (r6, _), (r3, _)] (e := tJ) (sz := 3) (bts := 48) (m := 1) (hh'.appendR (Y ++ F)) (SV.row (sz := 3) (n := 1) (List.mem_cons_self ..) rfl) (by omega) rfl rfl rfl rfl (by omega) (by omega)) (fun _ => rfl) (fun _ => Keep.gone rfl (Keep.gone rfl Keep.nil)) (fun r2 => ?_)
    refine yG ?_
    refine LS.ret ⟨_, res_cell2 2 rfl rfl rfl rfl rfl, ?_⟩
    refine ⟨[(r2, .cells tJ (cs ++ [.int .i64 no, str w, .slice avA a.length avc]))] ++ ([] ++ ([] ++ (Y ++ F))), ?_, _, Y, rfl, _, _, [(r2, .cells tJ (cs ++ [.int .i64 no, str w, .slice avA a.length avc]))], [], [], rfl, rfl, hBF, ⟨hok.ok.addH (by omega), ax_snoc hok.head h1, hok.secs⟩, .none ?_ (hI'.snoc (x := ⟨no, w, a⟩) hav3)⟩
    · refine Sub.trans (Sub.sums fun f => ?_) (Sub.trans (Sub.drop 1 rfl) (Sub.trans (Sub.drop 1 rfl) (Sub.drop 1 rfl)))
      simp <;> omega
    · have hlen := hI'.len
      rw [List.length_append]
      exact .of (by simp [hlen]; omega)
  | @some hd cs HY IY S y cs0 ics iv rS hh' hI' hS' hg' hy' =>
    obtain ⟨ivA, ivc, rfl⟩ := hg'.sv.form
    have hlast : (Dc.mk hd (S ++ [y])).last = (y.kind, y.items) := by simp [Dc.last]
    rw [hlast] at hE hax
    simp only at hE hax
    have hl := hS'.len
    have hil : y.items.length ≤ 40 := hok.ok.items y (by simp)
    have hsl : S.length + 1 ≤ 48 := by simpa using hslen
    have hg : ileB 0 ((S.length + 1 - 1 : Nat) : Int) = true := by rw [ileB_eq]; simp
    have hS2 : SV 4 ((r6, ARow.cells tDd [.slice none 0 0, .slice none 0 0]) :: (r3, ARow.cells tDd [.slice hA hn hc, .slice (some ⟨rS, 0, none⟩) (S.length + 1) openCap]) :: (HY ++ ([(rS, ARow.cells tZ (cs0 ++ secC y.no y.kind y.name (.slice ivA y.items.length ivc)))] ++ (IY ++ (Y ++ F))))) (.slice (some ⟨rS, 0, none⟩) (S.length + 1) openCap) (S.length + 1) scs := by have := hSL; simpa using this
    have mS : (rS, ARow.cells tZ (cs0 ++ secC y.no y.kind y.name (.slice ivA y.items.length ivc))) ∈ (r6, ARow.cells tDd [.slice none 0 0, .slice none 0 0]) :: (r3, ARow.cells tDd [.slice hA hn hc, .slice (some ⟨rS, 0, none⟩) (S.length + 1) openCap]) :: (HY ++ ([(rS, ARow.cells tZ (cs0 ++ secC y.no y.kind y.name (.slice ivA y.items.length ivc)))] ++ (IY ++ (Y ++ F)))) := by simp
    have g1 : (cs0 ++ secC y.no y.kind y.name (.slice ivA y.items.length ivc))[0 + (S.length + 1 - 1) * 4 + 1]? = some (.int .u8 (y.kind.toNat : Nat)) := by rw [Nat.zero_add, Nat.add_sub_cancel, List.getElem?_append_right (by omega), hl]; simp
    have g3 : (cs0 ++ secC y.no y.kind y.name (.slice ivA y.items.length ivc))[0 + (S.length + 1 - 1) * 4 + 3]? = some (.slice ivA y.items.length ivc) := by rw [Nat.zero_add, Nat.add_sub_cancel, List.getElem?_append_right (by omega), hl]; simp
    have hit : SV 3 (HY ++ ([(rS, ARow.cells tZ (cs0 ++ secC y.no y.kind y.name (.slice ivA y.items.length ivc)))] ++ (IY ++ (Y ++ F)))) (.slice ivA y.items.length ivc) y.items.length ics := hg'.sv.up fun p hp => by simp [hp]
    have hiI : ItsR (HY ++ ([(rS, ARow.cells tZ (cs0 ++ secC y.no y.kind y.name (.slice ivA y.items.length ivc)))] ++ (IY ++ (Y ++ F)))) y.items ics := hy'.mono mYB
    clear hSL hS
    refine yG ?_
    refine OS.pure rfl (e_index (j := S.length + 1 - 1) (sz := 4) rfl rfl rfl rfl rfl (by omega)) rfl ?_
    refine yG ?_
    refine OS.read rfl (e_loadm mS rfl rfl rfl (part_one rfl g1)) rfl ?_
    refine yG ?_
    refine OS.pure rfl (e_index (j := S.length + 1 - 1) (sz := 4) rfl rfl rfl rfl rfl (by omega)) rfl ?_
    refine yG ?_
    refine OS.read rfl (e_loadm mS rfl rfl rfl (part_one rfl g3)) rfl ?_
    refine yG ?_
    refine OS.at1 (j := 0) (hlsL) (hg0) rfl rfl rfl rfl rfl rfl (fun ra0 oa0 rowa0 csa0 ma0 ca0 ga0 => ⟨_, rfl, ?_⟩)
    refine OS.read rfl (e_loadm ma0 ca0 rfl rfl (part_one rfl ga0)) rfl ?_
    refine yG ?_
    refine OS.call noGo rfl (fun _ => rfl) ((shape_ct w y.kind _ _).mono ?_)
    rintro u L' ⟨rfl, hL⟩
    rw [hL]
    clear hL
    have hsh : Pd.shape w y.kind (ieqB ((y.items.length : Nat) : Int) 0) ((w :: a).length - 1) = Pd.shape w y.kind y.items.isEmpty a.length := by
      congr 1
      cases y.items with
      | nil => rfl
      | cons x r => rw [ieqB_eq]; simp; omega
    rw [hsh]
    rcases tf (Pd.shape w y.kind y.items.isEmpty a.length) with hs | hs
    rotate_left
    · rw [hs]
      refine ⟨_, rfl, ?_⟩
      refine yG ?_
      refine LS.ret ⟨_, res_cell2 0 rfl rfl rfl rfl rfl, ?_⟩
      exact hErr 4 _ (by decide) (by rw [hE, if_pos hs]) (hend _ _)
    rw [hs]
    have h0 : (w = kTries ∨ w = kLimit) → a ≠ [] := fun h e => by subst e; rcases h with rfl | rfl <;> revert hs <;> simp [sh_Tries, sh_Limit]
    have h1 : w = kAxis → a ≠ [] := fun h e => by subst e; subst h; revert hs; simp [sh_Axis]
    rw [if_neg (by rw [hs]; simp)] at hE
    refine ⟨_, rfl, ?_⟩
    refine yG ?_
    repeat refine LS.seq ?_
    refine LS.drawn noGo mixed [(0, false), (1, false), (2, false), (3, false), (4, false), (5, true), (6, false)] rfl rfl (by kernel_rfl) ?_
    refine yG ?_
    refine ODS.at1 (j := 0) (hlsL) (hg0) rfl rfl rfl rfl rfl rfl rfl (fun ra2 oa2 rowa2 csa2 ma2 ca2 ga2 => ⟨_, rfl, ?_⟩)
    refine ODS.read rfl rfl (e_loadm ma2 ca2 rfl rfl (part_one rfl ga2)) rfl ?_
    refine yG ?_
    refine ODS.sliceWO rfl 1 hlvB (mL2 _ _) rfl rfl rfl rfl rfl rfl (by simp) fun av hav0 => ⟨_, rfl, ?_⟩
    have hav : Wd (Y ++ B) av a := hav0
    refine ODS.call rfl rfl (fun _ => rfl) ((args_ct (hav.mono (mL2 _ _)) (by omega) (fun x hx => hbd x (List.mem_cons_of_mem _ hx)) h0).mono ?_)
    rintro u L' ⟨rfl, rfl⟩
    refine ⟨_, rfl, ?_, ?_⟩
    · exact Keep.gone rfl (Keep.gone rfl Keep.nil)
    by_cases hz : argsE chk w a = 0
    rotate_left
    · have hzb : (!ieqB ((argsE chk w a : Nat) : Int) 0) = true := by rw [ieqB_eq]; simpa using hz
      refine yG ?_
      refine LS.ret ⟨_, res_cell2 0 rfl rfl rfl rfl rfl, ?_⟩
      exact hErr _ _ hz (by rw [hE, if_pos hz]) (hend _ _)
    have hzb : (!ieqB ((argsE chk w a : Nat) : Int) 0) = false := by rw [ieqB_eq]; simpa using hz
    rw [if_neg (by rw [hz]; simp)] at hE
    refine yG ?_
    repeat refine LS.seq ?_
    refine LS.drawn noGo mixed [(0, false), (1, false), (2, false), (3, false), (4, false), (5, false), (6, true)] rfl rfl (by kernel_rfl) ?_
    refine yG ?_
    refine ODS.at1 (j := 0) (hlsL) (hg0) rfl rfl rfl rfl rfl rfl rfl (fun ra2 oa2 rowa2 csa2 ma2 ca2 ga2 => ⟨_, rfl, ?_⟩)
    refine ODS.read rfl rfl (e_loadm ma2 ca2 rfl rfl (part_one rfl ga2)) rfl ?_
    refine yG ?_
    refine ODS.sliceWO rfl 1 hlvB (mL2 _ _) rfl rfl rfl rfl rfl rfl (by simp) fun av2 hav2 => ⟨_, rfl, ?_⟩
    have hav2 : Wd (Y ++ B) av2 a := hav2
    refine ODS.call rfl rfl (fun _ => rfl) ((twice_ct hit hiI (fun p hp => List.mem_cons_of_mem _ (List.mem_cons_of_mem _ hp)) (hav2.mono (mL2 _ _)) (by omega) hax h1).mono ?_)
    rintro u L' ⟨rfl, rfl⟩
    refine ⟨_, rfl, ?_, ?_⟩
    · exact Keep.gone rfl (Keep.gone rfl Keep.nil)
    rcases tf (Pd.twice y.items w a) with htw | htw
    · rw [htw]
      refine yG ?_
      refine LS.ret ⟨_, res_cell2 0 rfl rfl rfl rfl rfl, ?_⟩
      exact hErr 6 _ (by decide) (by rw [hE, if_pos htw]) (hend _ _)
    rw [htw]
    rw [if_neg (by rw [htw]; simp)] at hE
    by_cases hfull : 40 ≤ y.items.length
    · have hb : ileB 40 ((y.items.length : Nat) : Int) = true := by rw [ileB_eq]; simp; omega
      refine yG ?_
      refine LS.ret ⟨_, res_cell2 0 rfl rfl rfl rfl rfl, ?_⟩
      exact hErr 3 _ (by decide) (by rw [hE, if_pos hfull]) (hend _ _)
    have hb : ileB 40 ((y.items.length : Nat) : Int) = false := by rw [ileB_eq]; simp; omega
    rw [if_neg hfull] at hE
    rw [hE]
    clear hE hErr
    have e2 : (Dc.mk hd (S ++ [y])).add ⟨no, w, a⟩ = ⟨hd, S ++ [⟨y.no, y.kind, y.name, y.items ++ [⟨no, w, a⟩]⟩]⟩ := add_last ..
    rw [e2]
    have hok2 : RdOk ⟨hd, S ++ [⟨y.no, y.kind, y.name, y.items ++ [(⟨no, w, a⟩ : It)]⟩]⟩ := ⟨hok.ok.add (by omega), hok.head, fun s hs => by
      rcases List.mem_append.1 hs with hs | hs
      · exact hok.secs s (List.mem_append_left _ hs)
      · simp at hs; subst hs; exact ax_snoc (hok.secs y (by simp)) h1⟩
    have hlen := hy'.len
    refine yG ?_
    repeat refine LS.seq ?_
    refine LS.sub (Sub.sums (A := (r6, ARow.cells tDd [.slice none 0 0, .slice none 0 0]) :: (r3, ARow.cells tDd [.slice hA hn hc, .slice (some ⟨rS, 0, none⟩) (S.length + 1) openCap]) :: (rS, .cells tZ (cs0 ++ secC y.no y.kind y.name (.slice ivA y.items.length ivc))) :: (IY ++ (HY ++ (Y ++ F)))) fun f => by simp <;> omega) ?_
    have mN : ∀ x y z, ∀ p, p ∈ Y ++ B → p ∈ x :: y :: z :: (IY ++ (HY ++ (Y ++ F))) := fun x y z p hp => by
      rcases List.mem_append.1 hp with h | h
      · simp [h]
      · simp [hBF p h]
    repeat refine LS.seq ?_
    refine LS.drawn noGo mixed [(0, false), (1, false), (2, false), (3, false), (4, false), (5, false), (6, false), (7, false), (8, true), (9, true), (10, false)] rfl rfl (by kernel_rfl) ?_
    refine yG ?_
    refine ODS.at1 (j := 0) (hlvB.sv.up (mN _ _ _)) (hg0) rfl rfl rfl rfl rfl rfl rfl (fun ra2 oa2 rowa2 csa2 ma2 ca2 ga2 => ⟨_, rfl, ?_⟩)
    refine ODS.read rfl rfl (e_loadm ma2 ca2 rfl rfl (part_one rfl ga2)) rfl ?_
    refine yG ?_
    refine ODS.sliceWO rfl 1 hlvB (mN _ _ _) rfl rfl rfl rfl rfl rfl (by simp) fun av3 hav3 => ⟨_, rfl, ?_⟩
    have hav3 : Wd (Y ++ B) av3 a := hav3
    obtain ⟨avA, avc, rfl⟩ := hav3.form
    refine yG ?_
    refine ODS.fresh rfl rfl (e_new (fun _ => rfl) rfl) (fun _ => rfl) (fun _ => Keep.gone rfl (Keep.gone rfl Keep.nil)) (fun rt => ?_)
    refine ODS.fresh rfl rfl (e_appendGV [(rt, _), (r6, _), (r3, _), (rS, _)] (e := tJ) (sz := 3) (bts := 48) (m := 1) (hg'.appendR (HY ++ (Y ++ F))) (SV.row (sz := 3) (n := 1) (List.mem_cons_self ..) rfl) (by omega) rfl rfl rfl rfl (by omega) (by omega)) (fun _ => rfl) (fun _ => Keep.gone rfl (Keep.gone rfl Keep.nil)) (fun r2 => ?_)
    refine yG ?_
    refine OS.pure rfl (e_index (j := S.length + 1 - 1) (sz := 4) rfl rfl rfl rfl rfl (by omega)) rfl ?_
    refine yG ?_
    refine OS.write rfl (e_store 4 (n := 1) rfl rfl rfl rfl rfl rfl (lay_last2 hl) rfl) rfl ?_
    refine yG ?_
    refine LS.ret ⟨_, res_cell2 2 rfl rfl rfl rfl rfl, ?_⟩
    refine ⟨HY ++ ([(rS, .cells tZ (cs0 ++ secC y.no y.kind y.name (.slice (some ⟨r2, 0, none⟩) (y.items.length + 1) openCap)))] ++ ([(r2, .cells tJ (ics ++ [.int .i64 no, str w, .slice avA a.length avc]))] ++ (Y ++ F))), ?_, _, Y, rfl, _, _, HY, _, _, rfl, rfl, hBF, hok2, .some (y := ⟨y.no, y.kind, y.name, y.items ++ [⟨no, w, a⟩]⟩) hh' hI' hS' ?_ (hy'.snoc (x := ⟨no, w, a⟩) hav3)⟩
    · refine Sub.trans (Sub.sums fun f => ?_) (Sub.trans (Sub.drop 1 rfl) (Sub.trans (Sub.drop 1 rfl) (Sub.drop 1 rfl)))
      simp [secC] <;> omega
    · rw [List.length_append]
      exact .of (by simp [hlen]; omega)
end
end Go.Proofs.YtllcbjaajffaeaaGreatDoor
namespace Go.Proofs.YtllcbjaajffaeaaGreatDoor
set_option linter.unusedSimpArgs false
open Go.Am Go.Pd
set_option linter.unusedVariables false
set_option maxRecDepth 20000
set_option maxHeartbeats 8000000
attribute [local irreducible] OS LSr ODS CS YS
def RX2 (v : Value) (d : Dc) (Y B C : RL) : Prop := ∀ F', (∀ p, p ∈ B → p ∈ F') → RS v d Y B F' (C ++ F')
section
variable {F L Y B : RL} {d : Dc} {v : Value}
theorem RS.dx (h : RS v d Y B F L) : ∃ C, L = C ++ F ∧ RX2 v d Y B C := by
  obtain ⟨hv, sv, HY, SY, IY, rfl, rfl, hBF, hok, hD⟩ := h
  exact ⟨HY ++ (SY ++ (IY ++ Y)), by simp, fun F' hB => ⟨hv, sv, HY, SY, IY, rfl, by simp, hB, hok, hD⟩⟩
theorem RS.form (h : RS v d Y B F L) : ∃ A n c A' n' c', v = .agg #[.slice A n c, .slice A' n' c'] := by
  obtain ⟨hv, sv, HY, SY, IY, rfl, rfl, hBF, hok, hD⟩ := h
  obtain ⟨⟨A, n, c, rfl⟩, A', n', c', rfl⟩ := docD_forms hD
  exact ⟨_, _, _, _, _, _, rfl⟩
theorem RX2.row {C : RL} (h : RX2 v d Y B C) (x : Nat × ARow) : ∃ C', RX2 v d (x :: Y) B C' ∧ ∀ G, Sub (C' ++ G) (x :: (C ++ G)) := by
  obtain ⟨hv, sv, HY, SY, IY, rfl, hC, hBF, hok, hD⟩ := h B fun p hp => hp
  have hC : C = HY ++ (SY ++ (IY ++ Y)) := List.append_cancel_right (bs := B) (by rw [hC]; simp)
  subst hC
  exact ⟨HY ++ (SY ++ (IY ++ (x :: Y))), fun F' hB => ⟨hv, sv, HY, SY, IY, rfl, by simp, hB, hok, hD.mono fun p hp => List.mem_cons_of_mem _ hp⟩, fun G => Sub.sums fun f => by simp <;> omega⟩
theorem RX2.nil : RX2 (.agg #[.slice none 0 0, .slice none 0 0]) ⟨[], []⟩ [] B [] := fun F' hB => ⟨_, _, [], [], [], rfl, rfl, hB, .none, .none (.inl ⟨rfl, rfl, rfl, rfl⟩) rfl⟩
end
end Go.Proofs.YtllcbjaajffaeaaGreatDoor
namespace Go.Am
theorem Sub.self {L : RL} : Sub L L := ⟨[], by simp⟩
end Go.Am
namespace Go.Proofs.YtllcbjaajffaeaaGreatDoor
open Go.Am
set_option linter.unusedVariables false
set_option linter.unusedSimpArgs false
set_option maxRecDepth 20000
def own0 : List UInt8 → Bool
  | [] => false
  | c :: _ => !(c == 35)
theorem own0_eq (w : List UInt8) : ownP w = (own0 w && w.all isP) := by cases w <;> rfl
abbrev u8s (r : Nat) (bs : List UInt8) : Nat × ARow := (r, .cells 5 (byteCells bs))
abbrev sl8 (r : Nat) (bs : List UInt8) : Value := .slice (some ⟨r, 0, none⟩) bs.length openCap
theorem refOwn_ct {L : RL} (w : List UInt8) (hw : w.length ≤ 200000000) : CS Tryz.prog 111 [str w] L fun v L' => v = str (ownF w) ∧ L' = L := by
  suffices h : CS Tryz.prog 111 [str w] L fun v L' => v = str (ownF w) ∧ Sub L L' by
    exact h.less fun v L' ⟨h1, h2⟩ => ⟨L, h2, h1, rfl⟩
  refine CS.mk (fn := Tryz.f111) rfl rfl rfl rfl ?_
  repeat refine LS.seq ?_
  refine LS.region rfl ?_
  refine OS.pure rfl (fun _ => rfl) rfl ?_
  refine OS.nil ?_
  repeat refine LS.seq ?_
  refine LS.mid [0, 3] (fun a L' => L' = L ∧ a = [str w, .chan none, .chan none, .bool (own0 w), .chan none, .chan none, .chan none, .chan none, .chan none, .chan none, .chan none, .chan none, .chan none, .chan none, .chan none, .chan none, .chan none, .chan none, .chan none, .chan none, .chan none, .chan none, .chan none, .chan none, .chan none, .chan none, .chan none, .chan none, .chan none, .chan none, .chan none, .chan none, .chan none, .chan none, .chan none, .chan none, .chan none, .chan none, .chan none, .chan none, .chan none, .chan none, .chan none, .chan none, .chan none, .chan none, .chan none, .chan none, .chan none, .chan none, .chan none, .chan none, .chan none, .chan none, .chan none, .chan none, .chan none, .chan none, .chan none, .chan none, .chan none, .chan none, .chan none, .chan none, .chan none, .chan none, .chan none, .chan none, .chan none, .chan none, .chan none, .chan none, .chan none, .chan none, .chan none, .chan none, .chan none, .chan none, .chan none, .chan none, .chan none, .chan none, .chan none, .chan none, .chan none, .chan none, .chan none, .chan none, .chan none, .chan none, .chan none, .chan none, .chan none, .chan none, .chan none, .chan none, .chan none, .chan none, .chan none]) ?_ ?_
  · cases w with
    | nil =>
      refine LS.region rfl ?_
      refine OS.pure rfl (fun _ => rfl) rfl ?_
      refine OS.pure rfl (fun _ => rfl) rfl ?_
      refine OS.pure rfl (fun _ => rfl) rfl ?_
      refine OS.skip rfl rfl ?_
      refine OS.skip rfl rfl ?_
      refine OS.skip rfl rfl ?_
      refine OS.pure rfl (fun _ => rfl) rfl ?_
      refine OS.pure rfl (fun _ => rfl) rfl ?_
      refine OS.nil ?_
      exact ⟨rfl, rfl⟩
    | cons c w =>
      have hc : (!ieqB (c.toNat : Int) 35) = (!(c == 35)) := by
        congr 1
        rw [ieqB_eq, Bool.eq_iff_iff]
        simp [← UInt8.toNat_inj]; omega
      refine LS.region rfl ?_
      refine OS.pure rfl (fun _ => rfl) rfl ?_
      refine OS.pure rfl (fun _ => rfl) rfl ?_
      refine OS.pure rfl (fun _ => rfl) rfl ?_
      refine OS.pure rfl (fun _ => rfl) rfl ?_
      refine OS.pure rfl (e_byte (j := 0) rfl rfl rfl rfl rfl) rfl ?_
      refine OS.pure rfl (e_is (fun _ => rfl) (congrArg Value.bool hc)) rfl ?_
      refine OS.pure rfl (fun _ => rfl) rfl ?_
      refine OS.pure rfl (fun _ => rfl) rfl ?_
      refine OS.nil ?_
      exact ⟨rfl, rfl⟩
  rintro a L' ⟨rfl, rfl⟩
  repeat refine LS.seq ?_
  refine LS.region rfl ?_
  refine OS.pure rfl (fun _ => rfl) rfl ?_
  refine OS.nil ?_
  repeat refine LS.seq ?_
  refine LS.mid [0, 3] (fun a L'' => L'' = L' ∧ a = [str w, .chan none, .chan none, .bool (ownP w), .chan none, .chan none, .chan none, .chan none, .chan none, .chan none, .chan none, .chan none, .chan none, .chan none, .chan none, .chan none, .chan none, .chan none, .chan none, .chan none, .chan none, .chan none, .chan none, .chan none, .chan none, .chan none, .chan none, .chan none, .chan none, .chan none, .chan none, .chan none, .chan none, .chan none, .chan none, .chan none, .chan none, .chan none, .chan none, .chan none, .chan none, .chan none, .chan none, .chan none, .chan none, .chan none, .chan none, .chan none, .chan none, .chan none, .chan none, .chan none, .chan none, .chan none, .chan none, .chan none, .chan none, .chan none, .chan none, .chan none, .chan none, .chan none, .chan none, .chan none, .chan none, .chan none, .chan none, .chan none, .chan none, .chan none, .chan none, .chan none, .chan none, .chan none, .chan none, .chan none, .chan none, .chan none, .chan none, .chan none, .chan none, .chan none, .chan none, .chan none, .chan none, .chan none, .chan none, .chan none, .chan none, .chan none, .chan none, .chan none, .chan none, .chan none, .chan none, .chan none, .chan none, .chan none, .chan none]) ?_ ?_
  · refine LS.block ?_
    refine LS.loopJ [0, 3, 4] (fun q a L'' => ∃ (j : Nat) (b : Bool), q = w.length - j ∧ j ≤ w.length ∧ b = (own0 w && (w.take j).all isP) ∧ L'' = L' ∧ a = [str w, .chan none, .chan none, .bool b, .int .i64 (j : Nat), .chan none, .chan none, .chan none, .chan none, .chan none, .chan none, .chan none, .chan none, .chan none, .chan none, .chan none, .chan none, .chan none, .chan none, .chan none, .chan none, .chan none, .chan none, .chan none, .chan none, .chan none, .chan none, .chan none, .chan none, .chan none, .chan none, .chan none, .chan none, .chan none, .chan none, .chan none, .chan none, .chan none, .chan none, .chan none, .chan none, .chan none, .chan none, .chan none, .chan none, .chan none, .chan none, .chan none, .chan none, .chan none, .chan none, .chan none, .chan none, .chan none, .chan none, .chan none, .chan none, .chan none, .chan none, .chan none, .chan none, .chan none, .chan none, .chan none, .chan none, .chan none, .chan none, .chan none, .chan none, .chan none, .chan none, .chan none, .chan none, .chan none, .chan none, .chan none, .chan none, .chan none, .chan none, .chan none, .chan none, .chan none, .chan none, .chan none, .chan none, .chan none, .chan none, .chan none, .chan none, .chan none, .chan none, .chan none, .chan none, .chan none, .chan none, .chan none, .chan none, .chan none, .chan none]) (n := w.length) rfl ⟨0, own0 w, rfl, by omega, by simp, rfl, rfl⟩ ?_
    rintro q a L'' ⟨j, b, rfl, hj, hb, rfl, rfl⟩
    repeat refine LS.seq ?_
    refine LS.region rfl ?_
    refine OS.pure rfl (fun _ => rfl) rfl ?_
    refine OS.pure rfl (fun _ => rfl) rfl ?_
    refine OS.pure rfl (fun _ => rfl) rfl ?_
    refine OS.pure rfl (fun _ => rfl) rfl ?_
    refine OS.nil ?_
    repeat refine LS.seq ?_
    refine LS.cond rfl (fun hc => ?_) (fun hc => ?_)
    · have hc : (j : Int) < w.length := lt_of hc
      have hjl : j < w.length := by omega
      have hg := List.getElem?_eq_getElem hjl
      have hsn : (w.take (j + 1)).all isP = ((w.take j).all isP && isP (w[j]'hjl)) := by
        rw [List.take_add_one, hg]
        simp only [Option.toList_some, List.all_append, List.all_cons, List.all_nil, Bool.and_true]
      generalize w[j] = c at hg hsn
      have step : ∀ b', b' = (b && isP c) → b' = (own0 w && (w.take (j + 1)).all isP) := fun b' h => by rw [h, hb, hsn, Bool.and_assoc]
      refine LS.skip ?_
      repeat refine LS.seq ?_
      refine LS.mid [0, 3, 4] (fun a L2 => ∃ b', b' = (b && isP c) ∧ L2 = L'' ∧ a = [str w, .chan none, .chan none, .bool b', .int .i64 (j : Nat), .chan none, .chan none, .chan none, .chan none, .chan none, .chan none, .chan none, .chan none, .chan none, .chan none, .chan none, .chan none, .chan none, .chan none, .chan none, .chan none, .chan none, .chan none, .chan none, .chan none, .chan none, .chan none, .chan none, .chan none, .chan none, .chan none, .chan none, .chan none, .chan none, .chan none, .chan none, .chan none, .chan none, .chan none, .chan none, .chan none, .chan none, .chan none, .chan none, .chan none, .chan none, .chan none, .chan none, .chan none, .chan none, .chan none, .chan none, .chan none, .chan none, .chan none, .chan none, .chan none, .chan none, .chan none, .chan none, .chan none, .chan none, .chan none, .chan none, .chan none, .chan none, .chan none, .chan none, .chan none, .chan none, .chan none, .chan none, .chan none, .chan none, .chan none, .chan none, .chan none, .chan none, .chan none, .chan none, .chan none, .chan none, .chan none, .chan none, .chan none, .chan none, .chan none, .chan none, .chan none, .chan none, .chan none, .chan none, .chan none, .chan none, .chan none, .chan none, .chan none, .chan none, .chan none]) ?_ ?_
      · repeat refine LS.seq ?_
        refine LS.block ?_
        cases b with
        | false =>
          repeat refine LS.seq ?_
          refine LS.region rfl ?_
          refine OS.pure rfl (fun _ => rfl) rfl ?_
          refine OS.pure rfl (fun _ => rfl) rfl ?_
          refine OS.skip rfl rfl ?_
          refine OS.skip rfl rfl ?_
          refine OS.skip rfl rfl ?_
          refine OS.skip rfl rfl ?_
          refine OS.pure rfl (fun _ => rfl) rfl ?_
          refine OS.pure rfl (fun _ => rfl) rfl ?_
          refine OS.skip rfl rfl ?_
          refine OS.skip rfl rfl ?_
          refine OS.skip rfl rfl ?_
          refine OS.skip rfl rfl ?_
          refine OS.pure rfl (fun _ => rfl) rfl ?_
          refine OS.pure rfl (fun _ => rfl) rfl ?_
          refine OS.skip rfl rfl ?_
          refine OS.skip rfl rfl ?_
          refine OS.skip rfl rfl ?_
          refine OS.skip rfl rfl ?_
          refine OS.pure rfl (fun _ => rfl) rfl ?_
          refine OS.pure rfl (fun _ => rfl) rfl ?_
          refine OS.nil ?_
          exact ⟨_, rfl, rfl, rfl⟩
        | true =>
          by_cases p1 : 32 < c.toNat
          · have c1 : ileB 33 (c.toNat : Int) = true := by rw [ileB_eq]; simp; omega
            by_cases p2 : c.toNat ≤ 126
            · have c2 : ileB (c.toNat : Int) 126 = true := by rw [ileB_eq]; simp; omega
              have c3 : (!ieqB (c.toNat : Int) 34) = isP c := by
                simp only [isP, p1, p2, decide_true, Bool.true_and]
                congr 1
                rw [ieqB_eq, Bool.eq_iff_iff]
                simp [← UInt8.toNat_inj]; omega
              repeat refine LS.seq ?_
              refine LS.region rfl ?_
              refine OS.pure rfl (fun _ => rfl) rfl ?_
              refine OS.pure rfl (fun _ => rfl) rfl ?_
              refine OS.pure rfl (fun _ => rfl) rfl ?_
              refine OS.pure rfl (fun _ => rfl) rfl ?_
              refine OS.pure rfl (e_byte (s := w) (j := j) rfl rfl rfl rfl hg) rfl ?_
              refine OS.pure rfl (e_is (fun _ => rfl) (congrArg Value.bool c1)) rfl ?_
              refine OS.pure rfl (fun _ => rfl) rfl ?_
              refine OS.pure rfl (fun _ => rfl) rfl ?_
              refine OS.pure rfl (fun _ => rfl) rfl ?_
              refine OS.pure rfl (fun _ => rfl) rfl ?_
              refine OS.pure rfl (e_byte (s := w) (j := j) rfl rfl rfl rfl hg) rfl ?_
              refine OS.pure rfl (e_is (fun _ => rfl) (congrArg Value.bool c2)) rfl ?_
              refine OS.pure rfl (fun _ => rfl) rfl ?_
              refine OS.pure rfl (fun _ => rfl) rfl ?_
              refine OS.pure rfl (fun _ => rfl) rfl ?_
              refine OS.pure rfl (fun _ => rfl) rfl ?_
              refine OS.pure rfl (e_byte (s := w) (j := j) rfl rfl rfl rfl hg) rfl ?_
              refine OS.pure rfl (e_is (fun _ => rfl) (congrArg Value.bool c3)) rfl ?_
              refine OS.pure rfl (fun _ => rfl) rfl ?_
              refine OS.pure rfl (fun _ => rfl) rfl ?_
              refine OS.nil ?_
              exact ⟨_, by simp, rfl, rfl⟩
            · have c2 : ileB (c.toNat : Int) 126 = false := by rw [ileB_eq]; simp; omega
              repeat refine LS.seq ?_
              refine LS.region rfl ?_
              refine OS.pure rfl (fun _ => rfl) rfl ?_
              refine OS.pure rfl (fun _ => rfl) rfl ?_
              refine OS.pure rfl (fun _ => rfl) rfl ?_
              refine OS.pure rfl (fun _ => rfl) rfl ?_
              refine OS.pure rfl (e_byte (s := w) (j := j) rfl rfl rfl rfl hg) rfl ?_
              refine OS.pure rfl (e_is (fun _ => rfl) (congrArg Value.bool c1)) rfl ?_
              refine OS.pure rfl (fun _ => rfl) rfl ?_
              refine OS.pure rfl (fun _ => rfl) rfl ?_
              refine OS.pure rfl (fun _ => rfl) rfl ?_
              refine OS.pure rfl (fun _ => rfl) rfl ?_
              refine OS.pure rfl (e_byte (s := w) (j := j) rfl rfl rfl rfl hg) rfl ?_
              refine OS.pure rfl (e_is (fun _ => rfl) (congrArg Value.bool c2)) rfl ?_
              refine OS.pure rfl (fun _ => rfl) rfl ?_
              refine OS.pure rfl (fun _ => rfl) rfl ?_
              refine OS.skip rfl rfl ?_
              refine OS.skip rfl rfl ?_
              refine OS.skip rfl rfl ?_
              refine OS.skip rfl rfl ?_
              refine OS.pure rfl (fun _ => rfl) rfl ?_
              refine OS.pure rfl (fun _ => rfl) rfl ?_
              refine OS.nil ?_
              exact ⟨_, by simp [isP, p2], rfl, rfl⟩
          · have c1 : ileB 33 (c.toNat : Int) = false := by rw [ileB_eq]; simp; omega
            repeat refine LS.seq ?_
            refine LS.region rfl ?_
            refine OS.pure rfl (fun _ => rfl) rfl ?_
            refine OS.pure rfl (fun _ => rfl) rfl ?_
            refine OS.pure rfl (fun _ => rfl) rfl ?_
            refine OS.pure rfl (fun _ => rfl) rfl ?_
            refine OS.pure rfl (e_byte (s := w) (j := j) rfl rfl rfl rfl hg) rfl ?_
            refine OS.pure rfl (e_is (fun _ => rfl) (congrArg Value.bool c1)) rfl ?_
            refine OS.pure rfl (fun _ => rfl) rfl ?_
            refine OS.pure rfl (fun _ => rfl) rfl ?_
            refine OS.skip rfl rfl ?_
            refine OS.skip rfl rfl ?_
            refine OS.skip rfl rfl ?_
            refine OS.skip rfl rfl ?_
            refine OS.pure rfl (fun _ => rfl) rfl ?_
            refine OS.pure rfl (fun _ => rfl) rfl ?_
            refine OS.skip rfl rfl ?_
            refine OS.skip rfl rfl ?_
            refine OS.skip rfl rfl ?_
            refine OS.skip rfl rfl ?_
            refine OS.pure rfl (fun _ => rfl) rfl ?_
            refine OS.pure rfl (fun _ => rfl) rfl ?_
            refine OS.nil ?_
            exact ⟨_, by simp [isP, p1], rfl, rfl⟩
      rintro a L2 ⟨b', hb', rfl, rfl⟩
      repeat refine LS.seq ?_
      refine LS.region rfl ?_
      refine OS.pure rfl (fun _ => rfl) rfl ?_
      refine OS.pure rfl (e_add (m := (j : Int)) (n := 1) rfl rfl rfl (in_i64 (by omega) (by omega))) rfl ?_
      rw [show ((j : Nat) : Int) + 1 = ((j + 1 : Nat) : Int) by omega]
      refine OS.pure rfl (fun _ => rfl) rfl ?_
      refine OS.nil ?_
      exact ⟨w.length - (j + 1), by omega, j + 1, b', rfl, by omega, step b' hb', rfl, rfl⟩
    · have hc : (w.length : Int) ≤ j := nlt_of hc
      rw [List.take_of_length_le (by omega), ← own0_eq] at hb
      subst hb
      refine LS.exit ?_
      exact ⟨rfl, rfl⟩
  rintro a L'' ⟨rfl, rfl⟩
  repeat refine LS.seq ?_
  refine LS.region rfl ?_
  refine OS.pure rfl (fun _ => rfl) rfl ?_
  refine OS.nil ?_
  repeat refine LS.seq ?_
  refine LS.cond rfl (fun hp => ?_) (fun hp => ?_)
  · have hp : ownP w = true := hp
    repeat refine LS.seq ?_
    refine LS.region rfl ?_
    refine OS.pure rfl (fun _ => rfl) rfl ?_
    refine OS.pure rfl (fun _ => rfl) rfl ?_
    refine OS.nil ?_
    refine LS.ret ⟨_, fun _ _ => rfl, ?_⟩
    exact ⟨by simp [tupleB, ownF, hp], Sub.self⟩
  have hp : ownP w = false := hp
  refine LS.skip ?_
  repeat refine LS.seq ?_
  refine LS.region rfl ?_
  refine OS.fresh rfl (e_new (fun _ => rfl) rfl) (fun _ => rfl) (fun r5 => ?_)
  refine OS.pure rfl (fun _ => rfl) rfl ?_
  refine OS.opened 5 0 (sz := 1) rfl rfl rfl (by decide) (by decide) rfl ?_
  refine OS.nil ?_
  repeat refine LS.seq ?_
  refine LS.region rfl ?_
  refine OS.pure rfl (fun _ => rfl) rfl ?_
  refine OS.nil ?_
  repeat refine LS.seq ?_
  refine LS.block ?_
  refine LS.loopJ [0, 5, 6] (fun q a L2 => ∃ (j r : Nat), q = w.length - j ∧ j ≤ w.length ∧ L2 = u8s r ([34] ++ (w.take j).flatMap markE) :: L'' ∧ a = [str w, .chan none, .chan none, .chan none, .chan none, sl8 r ([34] ++ (w.take j).flatMap markE), .int .i64 (j : Nat), .chan none, .chan none, .chan none, .chan none, .chan none, .chan none, .chan none, .chan none, .chan none, .chan none, .chan none, .chan none, .chan none, .chan none, .chan none, .chan none, .chan none, .chan none, .chan none, .chan none, .chan none, .chan none, .chan none, .chan none, .chan none, .chan none, .chan none, .chan none, .chan none, .chan none, .chan none, .chan none, .chan none, .chan none, .chan none, .chan none, .chan none, .chan none, .chan none, .chan none, .chan none, .chan none, .chan none, .chan none, .chan none, .chan none, .chan none, .chan none, .chan none, .chan none, .chan none, .chan none, .chan none, .chan none, .chan none, .chan none, .chan none, .chan none, .chan none, .chan none, .chan none, .chan none, .chan none, .chan none, .chan none, .chan none, .chan none, .chan none, .chan none, .chan none, .chan none, .chan none, .chan none, .chan none, .chan none, .chan none, .chan none, .chan none, .chan none, .chan none, .chan none, .chan none, .chan none, .chan none, .chan none, .chan none, .chan none, .chan none, .chan none, .chan none, .chan none, .chan none]) (n := w.length) rfl ⟨0, r5, rfl, by omega, rfl, rfl⟩ ?_
  rintro q a L2 ⟨j, r, rfl, hj, rfl, rfl⟩
  have hle := (marks_len (w.take j)).2
  rw [List.length_take] at hle
  repeat refine LS.seq ?_
  refine LS.region rfl ?_
  refine OS.pure rfl (fun _ => rfl) rfl ?_
  refine OS.pure rfl (fun _ => rfl) rfl ?_
  refine OS.pure rfl (fun _ => rfl) rfl ?_
  refine OS.pure rfl (fun _ => rfl) rfl ?_
  refine OS.nil ?_
  repeat refine LS.seq ?_
  refine LS.cond rfl (fun hc => ?_) (fun hc => ?_)
  · have hc : (j : Int) < w.length := lt_of hc
    have hjl : j < w.length := by omega
    have hg := List.getElem?_eq_getElem hjl
    have hsn : (w.take (j + 1)).flatMap markE = (w.take j).flatMap markE ++ markE (w[j]'hjl) := by
      rw [List.take_add_one, hg]
      simp only [Option.toList_some, List.flatMap_append, List.flatMap_cons, List.flatMap_nil, List.append_nil]
    generalize w[j] = c at hg hsn
    have hcl := c.toNat_lt
    have hacc : ([34] ++ (w.take j).flatMap markE).length ≤ 900000000 := by rw [List.length_append]; simp only [List.length_cons, List.length_nil]; omega
    have hE : [34] ++ (w.take (j + 1)).flatMap markE = ([34] ++ (w.take j).flatMap markE) ++ markE c := by rw [hsn, ← List.append_assoc]
    generalize hA : [34] ++ (w.take j).flatMap markE = acc at hacc hE ⊢
    refine LS.skip ?_
    repeat refine LS.seq ?_
    refine LS.mid [0, 5, 6] (fun a L2 => ∃ r', Am.Sub (u8s r' (acc ++ markE c) :: L'') L2 ∧ a = [str w, .chan none, .chan none, .chan none, .chan none, sl8 r' (acc ++ markE c), .int .i64 (j : Nat), .chan none, .chan none, .chan none, .chan none, .chan none, .chan none, .chan none, .chan none, .chan none, .chan none, .chan none, .chan none, .chan none, .chan none, .chan none, .chan none, .chan none, .chan none, .chan none, .chan none, .chan none, .chan none, .chan none, .chan none, .chan none, .chan none, .chan none, .chan none, .chan none, .chan none, .chan none, .chan none, .chan none, .chan none, .chan none, .chan none, .chan none, .chan none, .chan none, .chan none, .chan none, .chan none, .chan none, .chan none, .chan none, .chan none, .chan none, .chan none, .chan none, .chan none, .chan none, .chan none, .chan none, .chan none, .chan none, .chan none, .chan none, .chan none, .chan none, .chan none, .chan none, .chan none, .chan none, .chan none, .chan none, .chan none, .chan none, .chan none, .chan none, .chan none, .chan none, .chan none, .chan none, .chan none, .chan none, .chan none, .chan none, .chan none, .chan none, .chan none, .chan none, .chan none, .chan none, .chan none, .chan none, .chan none, .chan none, .chan none, .chan none, .chan none, .chan none, .chan none]) ?_ ?_
    · repeat refine LS.seq ?_
      refine LS.block ?_
      repeat refine LS.seq ?_
      refine LS.region rfl ?_
      refine OS.pure rfl (fun _ => rfl) rfl ?_
      refine OS.pure rfl (fun _ => rfl) rfl ?_
      refine OS.pure rfl (e_byte (s := w) (j := j) rfl rfl rfl rfl hg) rfl ?_
      refine OS.pure rfl (fun _ => rfl) rfl ?_
      refine OS.nil ?_
      have fin : ∀ (r' : Nat) (m : List UInt8), m = markE c → ∀ n, n = acc.length + m.length → ∀ L2, Am.Sub ((r', ARow.cells 5 (byteCells acc ++ byteCells m)) :: L'') L2 → ∃ r'', Am.Sub (u8s r'' (acc ++ markE c) :: L'') L2 ∧ [str w, .chan none, .chan none, .chan none, .chan none, .slice (some ⟨r', 0, none⟩) n openCap, .int .i64 (j : Nat), .chan none, .chan none, .chan none, .chan none, .chan none, .chan none, .chan none, .chan none, .chan none, .chan none, .chan none, .chan none, .chan none, .chan none, .chan none, .chan none, .chan none, .chan none, .chan none, .chan none, .chan none, .chan none, .chan none, .chan none, .chan none, .chan none, .chan none, .chan none, .chan none, .chan none, .chan none, .chan none, .chan none, .chan none, .chan none, .chan none, .chan none, .chan none, .chan none, .chan none, .chan none, .chan none, .chan none, .chan none, .chan none, .chan none, .chan none, .chan none, .chan none, .chan none, .chan none, .chan none, .chan none, .chan none, .chan none, .chan none, .chan none, .chan none, .chan none, .chan none, .chan none, .chan none, .chan none, .chan none, .chan none, .chan none, .chan none, .chan none, .chan none, .chan none, .chan none, .chan none, .chan none, .chan none, .chan none, .chan none, .chan none, .chan none, .chan none, .chan none, .chan none, .chan none, .chan none, .chan none, .chan none, .chan none, .chan none, .chan none, .chan none, .chan none, .chan none, .chan none] = [str w, .chan none, .chan none, .chan none, .chan none, sl8 r'' (acc ++ markE c), .int .i64 (j : Nat), .chan none, .chan none, .chan none, .chan none, .chan none, .chan none, .chan none, .chan none, .chan none, .chan none, .chan none, .chan none, .chan none, .chan none, .chan none, .chan none, .chan none, .chan none, .chan none, .chan none, .chan none, .chan none, .chan none, .chan none, .chan none, .chan none, .chan none, .chan none, .chan none, .chan none, .chan none, .chan none, .chan none, .chan none, .chan none, .chan none, .chan none, .chan none, .chan none, .chan none, .chan none, .chan none, .chan none, .chan none, .chan none, .chan none, .chan none, .chan none, .chan none, .chan none, .chan none, .chan none, .chan none, .chan none, .chan none, .chan none, .chan none, .chan none, .chan none, .chan none, .chan none, .chan none, .chan none, .chan none, .chan none, .chan none, .chan none, .chan none, .chan none, .chan none, .chan none, .chan none, .chan none, .chan none, .chan none, .chan none, .chan none, .chan none, .chan none, .chan none, .chan none, .chan none, .chan none, .chan none, .chan none, .chan none, .chan none, .chan none, .chan none, .chan none, .chan none, .chan none] := by
        rintro r' m rfl n rfl L2 hs2
        refine ⟨r', by rw [← byteCells_append] at hs2; exact hs2, ?_⟩
        unfold sl8
        rw [List.length_append]
      repeat refine LS.seq ?_
      refine LS.block ?_
      by_cases g12 : c = 34 ∨ c = 92
      · refine LS.seq ?_
        refine LS.mid [0, 5, 6, 7, 61] (fun a L2 => L2 = u8s r acc :: L'' ∧ a = [str w, .chan none, .chan none, .chan none, .chan none, sl8 r acc, .int .i64 (j : Nat), .int .u8 (c.toNat : Nat), .chan none, .chan none, .chan none, .chan none, .chan none, .chan none, .chan none, .chan none, .chan none, .chan none, .chan none, .chan none, .chan none, .chan none, .chan none, .chan none, .chan none, .chan none, .chan none, .chan none, .chan none, .chan none, .chan none, .chan none, .chan none, .chan none, .chan none, .chan none, .chan none, .chan none, .chan none, .chan none, .chan none, .chan none, .chan none, .chan none, .chan none, .chan none, .chan none, .chan none, .chan none, .chan none, .chan none, .chan none, .chan none, .chan none, .chan none, .chan none, .chan none, .chan none, .chan none, .chan none, .chan none, .bool true, .chan none, .chan none, .chan none, .chan none, .chan none, .chan none, .chan none, .chan none, .chan none, .chan none, .chan none, .chan none, .chan none, .chan none, .chan none, .chan none, .chan none, .chan none, .chan none, .chan none, .chan none, .chan none, .chan none, .chan none, .chan none, .chan none, .chan none, .chan none, .chan none, .chan none, .chan none, .chan none, .chan none, .chan none, .chan none, .chan none, .chan none]) ?_ ?_
        · by_cases g1 : c = 34
          · subst g1
            refine LS.region rfl ?_
            refine OS.pure rfl (fun _ => rfl) rfl ?_
            refine OS.pure rfl (fun _ => rfl) rfl ?_
            refine OS.pure rfl (fun _ => rfl) rfl ?_
            refine OS.skip rfl rfl ?_
            refine OS.skip rfl rfl ?_
            refine OS.pure rfl (fun _ => rfl) rfl ?_
            refine OS.pure rfl (fun _ => rfl) rfl ?_
            refine OS.nil ?_
            exact ⟨rfl, rfl⟩
          · obtain rfl : c = 92 := g12.resolve_left g1
            refine LS.region rfl ?_
            refine OS.pure rfl (fun _ => rfl) rfl ?_
            refine OS.pure rfl (fun _ => rfl) rfl ?_
            refine OS.pure rfl (fun _ => rfl) rfl ?_
            refine OS.pure rfl (fun _ => rfl) rfl ?_
            refine OS.pure rfl (fun _ => rfl) rfl ?_
            refine OS.pure rfl (fun _ => rfl) rfl ?_
            refine OS.pure rfl (fun _ => rfl) rfl ?_
            refine OS.nil ?_
            exact ⟨rfl, rfl⟩
        rintro a L2 ⟨rfl, rfl⟩
        repeat refine LS.seq ?_
        refine LS.cond rfl (fun h => ?_) (fun h => ?_)
        · repeat refine LS.seq ?_
          refine LS.region rfl ?_
          refine OS.pure rfl (fun _ => rfl) rfl ?_
          refine OS.pure rfl (fun _ => rfl) rfl ?_
          refine OS.fresh rfl (e_new (fun _ => rfl) rfl) (fun _ => rfl) (fun r2 => ?_)
          refine OS.fresh rfl (e_appendGV [(r2, _)] (F := L'') (e := 5) (cs := byteCells acc) (n := acc.length) (m := 2) (sz := 1) (bts := 1) (GV.of (by rw [byteCells_len]; omega)) (SV.row (sz := 1) (n := 2) (List.mem_cons_self ..) rfl) (by omega) rfl rfl rfl rfl (by omega) (by omega)) (fun _ => rfl) (fun r3 => ?_)
          refine OS.pure rfl (fun _ => rfl) rfl ?_
          refine OS.sub (Sub.drop 1 rfl) ?_
          refine OS.nil ?_
          exact fin r3 [92, c] (by simp [markE, g12]) _ rfl _ Sub.self
        · cases h
      have n1 : c ≠ 34 := fun e => g12 (.inl e)
      have n2 : c ≠ 92 := fun e => g12 (.inr e)
      have b1 : ieqB (c.toNat : Int) 34 = false := by rw [ieqB_eq]; simp [← UInt8.toNat_inj] at n1 ⊢; omega
      have b2 : ieqB (c.toNat : Int) 92 = false := by rw [ieqB_eq]; simp [← UInt8.toNat_inj] at n2 ⊢; omega
      repeat refine LS.seq ?_
      refine LS.region rfl ?_
      refine OS.pure rfl (fun _ => rfl) rfl ?_
      refine OS.pure rfl (e_is (fun _ => rfl) (congrArg Value.bool b1)) rfl ?_
      refine OS.pure rfl (fun _ => rfl) rfl ?_
      refine OS.pure rfl (fun _ => rfl) rfl ?_
      refine OS.pure rfl (e_is (fun _ => rfl) (congrArg Value.bool b2)) rfl ?_
      refine OS.pure rfl (fun _ => rfl) rfl ?_
      refine OS.pure rfl (fun _ => rfl) rfl ?_
      refine OS.nil ?_
      repeat refine LS.seq ?_
      refine LS.cond rfl (fun h => ?_) (fun h => ?_)
      · cases h
      repeat refine LS.seq ?_
      refine LS.region rfl ?_
      refine OS.pure rfl (fun _ => rfl) rfl ?_
      refine OS.pure rfl (fun _ => rfl) rfl ?_
      refine OS.pure rfl (fun _ => rfl) rfl ?_
      refine OS.nil ?_
      repeat refine LS.seq ?_
      refine LS.cond rfl (fun g3 => ?_) (fun g3 => ?_)
      · have g3 := is_u8 10 g3 rfl
        repeat refine LS.seq ?_
        refine LS.region rfl ?_
        refine OS.pure rfl (fun _ => rfl) rfl ?_
        refine OS.fresh rfl (e_new (fun _ => rfl) rfl) (fun _ => rfl) (fun r2 => ?_)
        refine OS.fresh rfl (e_appendGV [(r2, _)] (F := L'') (e := 5) (cs := byteCells acc) (n := acc.length) (m := 2) (sz := 1) (bts := 1) (GV.of (by rw [byteCells_len]; omega)) (SV.row (sz := 1) (n := 2) (List.mem_cons_self ..) rfl) (by omega) rfl rfl rfl rfl (by omega) (by omega)) (fun _ => rfl) (fun r3 => ?_)
        refine OS.pure rfl (fun _ => rfl) rfl ?_
        refine OS.sub (Sub.drop 1 rfl) ?_
        refine OS.nil ?_
        exact fin r3 [92, 110] (by simp [markE, n1, n2, g3]) _ rfl _ Sub.self
      have g3 := not_u8 10 g3 rfl
      repeat refine LS.seq ?_
      refine LS.region rfl ?_
      refine OS.pure rfl (fun _ => rfl) rfl ?_
      refine OS.pure rfl (fun _ => rfl) rfl ?_
      refine OS.pure rfl (fun _ => rfl) rfl ?_
      refine OS.nil ?_
      repeat refine LS.seq ?_
      refine LS.cond rfl (fun g4 => ?_) (fun g4 => ?_)
      · have g4 := is_u8 9 g4 rfl
        repeat refine LS.seq ?_
        refine LS.region rfl ?_
        refine OS.pure rfl (fun _ => rfl) rfl ?_
        refine OS.fresh rfl (e_new (fun _ => rfl) rfl) (fun _ => rfl) (fun r2 => ?_)
        refine OS.fresh rfl (e_appendGV [(r2, _)] (F := L'') (e := 5) (cs := byteCells acc) (n := acc.length) (m := 2) (sz := 1) (bts := 1) (GV.of (by rw [byteCells_len]; omega)) (SV.row (sz := 1) (n := 2) (List.mem_cons_self ..) rfl) (by omega) rfl rfl rfl rfl (by omega) (by omega)) (fun _ => rfl) (fun r3 => ?_)
        refine OS.pure rfl (fun _ => rfl) rfl ?_
        refine OS.sub (Sub.drop 1 rfl) ?_
        refine OS.nil ?_
        exact fin r3 [92, 116] (by simp [markE, n1, n2, g3, g4]) _ rfl _ Sub.self
      have g4 := not_u8 9 g4 rfl
      refine LS.seq ?_
      refine LS.mid [0, 5, 6, 7, 84] (fun a L2 => L2 = u8s r acc :: L'' ∧ a = [str w, .chan none, .chan none, .chan none, .chan none, sl8 r acc, .int .i64 (j : Nat), .int .u8 (c.toNat : Nat), .chan none, .chan none, .chan none, .chan none, .chan none, .chan none, .chan none, .chan none, .chan none, .chan none, .chan none, .chan none, .chan none, .chan none, .chan none, .chan none, .chan none, .chan none, .chan none, .chan none, .chan none, .chan none, .chan none, .chan none, .chan none, .chan none, .chan none, .chan none, .chan none, .chan none, .chan none, .chan none, .chan none, .chan none, .chan none, .chan none, .chan none, .chan none, .chan none, .chan none, .chan none, .chan none, .chan none, .chan none, .chan none, .chan none, .chan none, .chan none, .chan none, .chan none, .chan none, .chan none, .chan none, .chan none, .chan none, .chan none, .chan none, .chan none, .chan none, .chan none, .chan none, .chan none, .chan none, .chan none, .chan none, .chan none, .chan none, .chan none, .chan none, .chan none, .chan none, .chan none, .chan none, .chan none, .chan none, .chan none, .bool (isS c), .chan none, .chan none, .chan none, .chan none, .chan none, .chan none, .chan none, .chan none, .chan none, .chan none, .chan none, .chan none, .chan none, .chan none]) ?_ ?_
      · by_cases h1 : 32 ≤ c.toNat
        · have c1 : ileB 32 (c.toNat : Int) = true := by rw [ileB_eq]; simp; omega
          have c2 : ileB (c.toNat : Int) 126 = isS c := by simp only [isS, h1, decide_true, Bool.true_and]; rw [ileB_eq, Bool.eq_iff_iff]; simp; omega
          refine LS.region rfl ?_
          refine OS.pure rfl (fun _ => rfl) rfl ?_
          refine OS.pure rfl (e_is (fun _ => rfl) (congrArg Value.bool c1)) rfl ?_
          refine OS.pure rfl (fun _ => rfl) rfl ?_
          refine OS.pure rfl (fun _ => rfl) rfl ?_
          refine OS.pure rfl (e_is (fun _ => rfl) (congrArg Value.bool c2)) rfl ?_
          refine OS.pure rfl (fun _ => rfl) rfl ?_
          refine OS.pure rfl (fun _ => rfl) rfl ?_
          refine OS.nil ?_
          exact ⟨rfl, rfl⟩
        · have c1 : ileB 32 (c.toNat : Int) = false := by rw [ileB_eq]; simp; omega
          have c2 : isS c = false := by simp [isS, h1]
          rw [c2]
          refine LS.region rfl ?_
          refine OS.pure rfl (fun _ => rfl) rfl ?_
          refine OS.pure rfl (e_is (fun _ => rfl) (congrArg Value.bool c1)) rfl ?_
          refine OS.pure rfl (fun _ => rfl) rfl ?_
          refine OS.skip rfl rfl ?_
          refine OS.skip rfl rfl ?_
          refine OS.pure rfl (fun _ => rfl) rfl ?_
          refine OS.pure rfl (fun _ => rfl) rfl ?_
          refine OS.nil ?_
          exact ⟨rfl, rfl⟩
      rintro a L2 ⟨rfl, rfl⟩
      repeat refine LS.seq ?_
      refine LS.cond rfl (fun g5 => ?_) (fun g5 => ?_)
      · have g5 : isS c = true := g5
        repeat refine LS.seq ?_
        refine LS.region rfl ?_
        refine OS.pure rfl (fun _ => rfl) rfl ?_
        refine OS.pure rfl (fun _ => rfl) rfl ?_
        refine OS.fresh rfl (e_new (fun _ => rfl) rfl) (fun _ => rfl) (fun r2 => ?_)
        refine OS.fresh rfl (e_appendGV [(r2, _)] (F := L'') (e := 5) (cs := byteCells acc) (n := acc.length) (m := 1) (sz := 1) (bts := 1) (GV.of (by rw [byteCells_len]; omega)) (SV.row (sz := 1) (n := 1) (List.mem_cons_self ..) rfl) (by omega) rfl rfl rfl rfl (by omega) (by omega)) (fun _ => rfl) (fun r3 => ?_)
        refine OS.pure rfl (fun _ => rfl) rfl ?_
        refine OS.sub (Sub.drop 1 rfl) ?_
        refine OS.nil ?_
        exact fin r3 [c] (by simp [markE, n1, n2, g3, g4, g5]) _ rfl _ Sub.self
      have g5 : isS c = false := g5
      repeat refine LS.seq ?_
      refine LS.drawn noGo mixed [(0, false), (1, false), (2, false), (3, false), (4, false), (5, false), (6, false), (7, true), (8, true), (9, false)] rfl rfl (by kernel_rfl) ?_
      refine ODS.pure rfl rfl (fun _ => rfl) rfl ?_
      refine ODS.pure rfl rfl (fun _ => rfl) rfl ?_
      refine ODS.pure rfl rfl (e_quo (m := c.toNat) (n := 16) rfl rfl rfl (by decide) (in_u8 (by omega) (by omega))) rfl ?_
      refine ODS.pure rfl rfl (e_byte (s := hexS) (j := c.toNat / 16) rfl rfl rfl rfl (hexS_at (by omega))) rfl ?_
      refine ODS.pure rfl rfl (fun _ => rfl) rfl ?_
      refine ODS.pure rfl rfl (e_rem (m := c.toNat) (n := 16) rfl rfl rfl (by decide)) rfl ?_
      refine ODS.pure rfl rfl (e_byte (s := hexS) (j := c.toNat % 16) rfl rfl rfl rfl (hexS_at (by omega))) rfl ?_
      refine ODS.fresh rfl rfl (e_new (fun _ => rfl) rfl) (fun _ => rfl) (fun _ => Keep.nil) (fun r2 => ?_)
      refine ODS.fresh rfl rfl (e_appendGV [(r2, _)] (F := L'') (e := 5) (cs := byteCells acc) (n := acc.length) (m := 4) (sz := 1) (bts := 1) (GV.of (by rw [byteCells_len]; omega)) (SV.row (sz := 1) (n := 4) (List.mem_cons_self ..) rfl) (by omega) rfl rfl rfl rfl (by omega) (by omega)) (fun _ => rfl) (fun _ => Keep.nil) (fun r3 => ?_)
      refine ODS.pure rfl rfl (fun _ => rfl) rfl ?_
      refine ODS.nil ?_
      exact fin r3 [92, 120, hexC (c.toNat / 16), hexC (c.toNat % 16)] (by simp [markE, n1, n2, g3, g4, g5]) _ rfl _ (Sub.drop 1 rfl)
    rintro a L2 ⟨r', hsub, rfl⟩
    refine LS.sub hsub ?_
    repeat refine LS.seq ?_
    refine LS.region rfl ?_
    refine OS.pure rfl (fun _ => rfl) rfl ?_
    refine OS.pure rfl (e_add (m := (j : Int)) (n := 1) rfl rfl rfl (in_i64 (by omega) (by omega))) rfl ?_
    rw [show ((j : Nat) : Int) + 1 = ((j + 1 : Nat) : Int) by omega]
    refine OS.pure rfl (fun _ => rfl) rfl ?_
    refine OS.nil ?_
    exact ⟨w.length - (j + 1), by omega, j + 1, r', rfl, by omega, by rw [hE], by rw [hE]; rfl⟩
  · have hc : (w.length : Int) ≤ j := nlt_of hc
    rw [List.take_of_length_le (by omega)]
    have hm := (marks_len w).2
    refine LS.exit ?_
    repeat refine LS.seq ?_
    refine LS.region rfl ?_
    refine OS.pure rfl (fun _ => rfl) rfl ?_
    refine OS.fresh rfl (e_new (fun _ => rfl) rfl) (fun _ => rfl) (fun r2 => ?_)
    refine OS.fresh rfl (e_appendGV [(r2, _)] (F := L'') (e := 5) (cs := byteCells ([34] ++ w.flatMap markE)) (n := ([34] ++ w.flatMap markE).length) (m := 1) (sz := 1) (bts := 1) (GV.of (by rw [byteCells_len]; omega)) (SV.row (sz := 1) (n := 1) (List.mem_cons_self ..) rfl) (by omega) rfl rfl rfl rfl (by rw [List.length_append]; simp only [List.length_cons, List.length_nil]; omega) (by rw [List.length_append]; simp only [List.length_cons, List.length_nil]; omega)) (fun _ => rfl) (fun r3 => ?_)
    have hF : ownF w = [34] ++ w.flatMap markE ++ [34] := by simp [ownF, hp]
    have hFl : (ownF w).length = ([34] ++ w.flatMap markE).length + 1 := by rw [hF, List.length_append]; rfl
    rw [show byteCells ([34] ++ w.flatMap markE) ++ [Value.int .u8 34] = byteCells (ownF w) by rw [show ownF w = [34] ++ w.flatMap markE ++ [34] by simp [ownF, hp], byteCells_append ([34] ++ w.flatMap markE)]; rfl]
    refine OS.read rfl (e_textSV (n := ([34] ++ w.flatMap markE).length + 1) (bs := ownF w) (SV.row (e := 5) (r := r3) (List.mem_cons_self ..) (by rw [byteCells_len, hFl]; omega)) rfl rfl rfl rfl rfl) rfl ?_
    refine OS.pure rfl (fun _ => rfl) rfl ?_
    refine OS.nil ?_
    refine LS.ret ⟨_, fun _ _ => rfl, ?_⟩
    exact ⟨rfl, ⟨[_, _], List.perm_append_comm (l₁ := [_, _]) (l₂ := L'')⟩⟩
theorem refJoin_ct {L : RL} {v : Value} {ws : List (List UInt8)} (hv : SV 1 L v ws.length (strs ws)) (hn : ws.length ≤ 9000000000000000) (hw : ∀ j, j < 1000 → ∀ w, ws[j]? = some w → w.length ≤ 100000000) :
    CS Tryz.prog 81 [v] L fun u L' => u = joinV ws ∧ L' = L := by
  refine CS.mk (fn := Tryz.f81) rfl rfl rfl rfl ?_
  repeat refine LS.seq ?_
  refine LS.region rfl ?_
  refine OS.pure rfl (fun _ => rfl) rfl ?_
  refine OS.pure rfl (fun _ => rfl) rfl ?_
  refine OS.nil ?_
  repeat refine LS.seq ?_
  refine LS.region rfl ?_
  refine OS.pure rfl (fun _ => rfl) rfl ?_
  refine OS.nil ?_
  repeat refine LS.seq ?_
  refine LS.region rfl ?_
  refine OS.pure rfl (fun _ => rfl) rfl ?_
  refine OS.nil ?_
  repeat refine LS.seq ?_
  refine LS.block ?_
  refine LS.loopJ [0, 4, 5] (fun q a L' => ∃ (j : Nat) (acc : List UInt8), q = ws.length - j ∧ j ≤ ws.length ∧ acc.length ≤ 400 ∧ (j ≤ acc.length) ∧ joinW ws = jn acc (j == 0) (ws.drop j) ∧ L' = L ∧ a = [v, .chan none, .chan none, .chan none, str acc, .int .i64 (j : Nat), .chan none, .chan none, .chan none, .chan none, .chan none, .chan none, .chan none, .chan none, .chan none, .chan none, .chan none, .chan none, .chan none, .chan none, .chan none, .chan none, .chan none, .chan none, .chan none, .chan none, .chan none]) (n := ws.length) rfl ⟨0, [], rfl, by omega, by simp, by simp, rfl, rfl, rfl⟩ ?_
  rintro q a L' ⟨j, acc, rfl, hj, ha, hja, hjn, rfl, rfl⟩
  repeat refine LS.seq ?_
  refine LS.region rfl ?_
  refine OS.pure rfl (fun _ => rfl) rfl ?_
  refine OS.pure rfl (fun _ => rfl) rfl ?_
  refine OS.pure rfl (e_len hv rfl rfl rfl rfl rfl) rfl ?_
  refine OS.pure rfl (fun _ => rfl) rfl ?_
  refine OS.nil ?_
  repeat refine LS.seq ?_
  refine LS.cond rfl (fun hc => ?_) (fun hc => ?_)
  · have hc : (j : Int) < ws.length := lt_of hc
    have hjl : j < ws.length := by omega
    have hd : ws.drop j = ws[j] :: ws.drop (j + 1) := List.drop_eq_getElem_cons hjl
    have hget := strs_at hjl
    have hwl : (ws[j]'hjl).length ≤ 100000000 := hw j (by omega) _ (List.getElem?_eq_getElem hjl)
    generalize ws[j] = w at hd hget hwl
    have hol := ownF_len w
    have hne : 1 ≤ (ownF w).length := List.length_pos_iff.2 (ownF_ne w)
    refine LS.skip ?_
    repeat refine LS.seq ?_
    refine LS.mid [0, 4, 5] (fun a L2 => ∃ acc', acc'.length ≤ 1000000000 ∧ j + 1 ≤ acc'.length ∧ joinW ws = (if acc'.length ≤ 400 then jn acc' false (ws.drop (j + 1)) else none) ∧ acc'.length ≤ 400 ∧ L2 = L' ∧ a = [v, .chan none, .chan none, .chan none, str acc', .int .i64 (j : Nat), .chan none, .chan none, .chan none, .chan none, .chan none, .chan none, .chan none, .chan none, .chan none, .chan none, .chan none, .chan none, .chan none, .chan none, .chan none, .chan none, .chan none, .chan none, .chan none, .chan none, .chan none]) ?_ ?_
    · repeat refine LS.seq ?_
      refine LS.block ?_
      repeat refine LS.seq ?_
      refine LS.region rfl ?_
      refine OS.pure rfl (fun _ => rfl) rfl ?_
      refine OS.pure rfl (fun _ => rfl) rfl ?_
      refine OS.nil ?_
      refine LS.mid [0, 4, 5] (fun a L2 => L2 = L' ∧ a = [v, .chan none, .chan none, .chan none, str (if (j == 0) = true then acc else acc ++ [32]), .int .i64 (j : Nat), .chan none, .chan none, .chan none, .chan none, .chan none, .chan none, .chan none, .chan none, .chan none, .chan none, .chan none, .chan none, .chan none, .chan none, .chan none, .chan none, .chan none, .chan none, .chan none, .chan none, .chan none]) ?_ ?_
      · repeat refine LS.seq ?_
        refine LS.cond rfl (fun h0 => ?_) (fun h0 => ?_)
        · have h0 : (0 : Int) < j := lt_of h0
          have hz : (j == 0) = false := by simp; omega
          repeat refine LS.seq ?_
          refine LS.region rfl ?_
          refine OS.pure rfl (fun _ => rfl) rfl ?_
          refine OS.pure rfl (e_cat (xs := acc) (ys := [32]) rfl rfl rfl (by simp; omega)) rfl ?_
          refine OS.pure rfl (fun _ => rfl) rfl ?_
          refine OS.nil ?_
          rw [hz]
          exact ⟨rfl, rfl⟩
        · have h0 : (j : Int) ≤ 0 := nlt_of h0
          have hz : (j == 0) = true := by simp; omega
          refine LS.skip ⟨rfl, ?_⟩
          rw [hz]; rfl
      rintro a L2 ⟨rfl, rfl⟩
      have hal : (if (j == 0) = true then acc else acc ++ [32]).length ≤ 401 ∧ j ≤ (if (j == 0) = true then acc else acc ++ [32]).length := by
        split
        · omega
        · rw [List.length_append]; simp only [List.length_cons, List.length_nil]; omega
      rw [hd] at hjn
      simp only [jn] at hjn
      generalize (if (j == 0) = true then acc else acc ++ [32]) = ac at hal hjn
      have hlen : (ac ++ ownF w).length = ac.length + (ownF w).length := List.length_append
      repeat refine LS.seq ?_
      refine LS.region rfl ?_
      refine OS.pure rfl (fun _ => rfl) rfl ?_
      refine OS.pure rfl (fun _ => rfl) rfl ?_
      refine OS.pure rfl (fun _ => rfl) rfl ?_
      refine OS.at1 hv hget rfl rfl rfl rfl rfl rfl (fun r off row cs₀ m1 m2 m3 => ⟨_, rfl, ?_⟩)
      refine OS.read rfl (e_loadm m1 m2 rfl rfl (part_one rfl m3)) rfl ?_
      refine OS.call noGo rfl (fun _ => rfl) ((refOwn_ct w (by omega)).mono ?_)
      rintro v' L₃ ⟨rfl, rfl⟩
      refine ⟨_, rfl, ?_⟩
      refine OS.pure rfl (e_cat (xs := ac) (ys := ownF w) rfl rfl rfl (by omega)) rfl ?_
      refine OS.pure rfl (fun _ => rfl) rfl ?_
      refine OS.nil ?_
      by_cases h4 : (ac ++ ownF w).length ≤ 400
      · have b4 : (!ileB ((ac ++ ownF w).length : Int) 400) = false := by rw [ileB_eq]; simp only [Bool.not_eq_false', decide_eq_true_eq]; omega
        repeat refine LS.seq ?_
        refine LS.region rfl ?_
        refine OS.pure rfl (fun _ => rfl) rfl ?_
        refine OS.pure rfl (fun _ => rfl) rfl ?_
        refine OS.pure rfl (e_is (fun _ => rfl) (congrArg Value.bool b4)) rfl ?_
        refine OS.nil ?_
        repeat refine LS.seq ?_
        refine LS.cond rfl (fun h => ?_) (fun h => ?_)
        · cases h
        refine LS.skip ⟨ac ++ ownF w, by omega, by omega, by rw [hjn], h4, rfl, rfl⟩
      · have b4 : (!ileB ((ac ++ ownF w).length : Int) 400) = true := by rw [ileB_eq]; simp only [Bool.not_eq_true', decide_eq_false_iff_not]; omega
        repeat refine LS.seq ?_
        refine LS.region rfl ?_
        refine OS.pure rfl (fun _ => rfl) rfl ?_
        refine OS.pure rfl (fun _ => rfl) rfl ?_
        refine OS.pure rfl (e_is (fun _ => rfl) (congrArg Value.bool b4)) rfl ?_
        refine OS.nil ?_
        repeat refine LS.seq ?_
        refine LS.cond rfl (fun h => ?_) (fun h => ?_)
        · repeat refine LS.seq ?_
          refine LS.region rfl ?_
          refine OS.pure rfl (fun _ => rfl) rfl ?_
          refine OS.pure rfl (fun _ => rfl) rfl ?_
          refine OS.nil ?_
          refine LS.ret ⟨_, fun _ _ => rfl, ?_⟩
          rw [if_neg h4] at hjn
          have hj : joinV ws = .tuple #[str [], .int .i64 40] := by unfold joinV; rw [hjn]
          exact ⟨by rw [hj]; rfl, rfl⟩
        · cases h
    rintro a L2 ⟨acc', h1, h2, h3, h4, rfl, rfl⟩
    rw [if_pos h4] at h3
    repeat refine LS.seq ?_
    refine LS.region rfl ?_
    refine OS.pure rfl (fun _ => rfl) rfl ?_
    refine OS.pure rfl (e_add (m := (j : Int)) (n := 1) rfl rfl rfl (in_i64 (by omega) (by omega))) rfl ?_
    rw [show ((j : Nat) : Int) + 1 = ((j + 1 : Nat) : Int) by omega]
    refine OS.pure rfl (fun _ => rfl) rfl ?_
    refine OS.nil ?_
    exact ⟨ws.length - (j + 1), by omega, j + 1, acc', rfl, by omega, h4, by omega, h3, rfl, rfl⟩
  · have hc : (ws.length : Int) ≤ j := nlt_of hc
    rw [List.drop_eq_nil_of_le (by omega)] at hjn
    simp only [jn] at hjn
    have hj : joinV ws = .tuple #[str acc, .int .i64 0] := by unfold joinV; rw [hjn]
    refine LS.exit ?_
    repeat refine LS.seq ?_
    refine LS.region rfl ?_
    refine OS.pure rfl (fun _ => rfl) rfl ?_
    refine OS.pure rfl (fun _ => rfl) rfl ?_
    refine OS.pure rfl (fun _ => rfl) rfl ?_
    refine OS.nil ?_
    refine LS.ret ⟨_, fun _ _ => rfl, ?_⟩
    exact ⟨by rw [hj]; rfl, rfl⟩
end Go.Proofs.YtllcbjaajffaeaaGreatDoor
namespace Go.Proofs.YtllcbjaajffaeaaGreatDoor
open Go.Am Go.Pd
set_option linter.unusedVariables false
set_option linter.unusedSimpArgs false
set_option maxRecDepth 20000
set_option maxHeartbeats 8000000
attribute [local irreducible] OS LSr ODS CS YS
abbrev tLi : Nat := 107
section
variable {F L Y B : RL} {d : Dc}
theorem words_ct {x : It} {av : Value} (hav : SV 1 F av x.args.length (strs x.args)) (hl : x.args.length ≤ 4398046511104) : CS Tryz.prog 48 [.agg #[.int .i64 x.no, str x.word, av]] F fun v L' => ∃ r, v = .slice (some ⟨r, 0, none⟩) (x.word :: x.args).length openCap ∧ L' = (r, .cells 9 (strs (x.word :: x.args))) :: F := by
  obtain ⟨avA, avc, rfl⟩ := hav.form
  suffices h : CS Tryz.prog 48 [.agg #[.int .i64 x.no, str x.word, .slice avA x.args.length avc]] F fun v L' => ∃ L₁, Sub L₁ L' ∧ ∃ r, v = .slice (some ⟨r, 0, none⟩) (x.word :: x.args).length openCap ∧ L₁ = (r, .cells 9 (strs (x.word :: x.args))) :: F from h.less fun v L' h => h
  refine CS.mk (fn := Tryz.f48) rfl rfl rfl rfl ?_
  refine yG ?_
  refine OS.fresh rfl (e_new (fun _ => rfl) rfl) (fun _ => rfl) (fun r1 => ?_)
  show OS _ _ _ _ ((r1, ARow.cells tJ [.int .i64 x.no, str x.word, .slice avA x.args.length avc]) :: _) _
  refine yG ?_
  refine OS.fresh rfl (e_new (fun _ => rfl) rfl) (fun _ => rfl) (fun rl => ?_)
  refine OS.opened 5 0 (sz := 1) rfl rfl rfl (by simp) (by decide) rfl ?_
  refine yG ?_
  refine OS.fresh rfl (e_appendSV 0 (sz := 1) (bts := 16) (old := [str x.word]) (hav.cons.cons) (strs_one _) rfl rfl rfl (by omega) (by omega) rfl rfl rfl) (fun _ => rfl) (fun rI => ?_)
  refine OS.sub (Sub.drop 1 rfl) ?_
  rw [show 1 + x.args.length = (x.word :: x.args).length by simp; omega]
  refine yG ?_
  exact ⟨(rI, .cells 9 (strs (x.word :: x.args))) :: F, Sub.drops 0 rfl, rI, rfl, rfl⟩
def lineR (no : Nat) (d : Dc) (s w : W) (a : List W) (i it : Bool) : Except Nat (Dc × W) := match joinW (w :: a) with
  | none => .error 40
  | some t => if 400 < t.length + (ind i).length then .error 40 else if it = true ∧ (w = kTemplate ∨ w = kJob) then .error 4 else match LN d no w a with
    | .error e => .error e
    | .ok d' => .ok (d', s ++ (ind i ++ t ++ [10]))
theorem putL_R {no : Nat} {d : Dc} {s w : W} {a : List W} {i it : Bool} {r : List Ln} : putL chk joinW no d s ((w :: a, i, it) :: r) = match lineR no d s w a i it with
    | .error e => .error e
    | .ok (d', s') => putL chk joinW (no + 1) d' s' r := by
  rw [putL, lineR]
  cases joinW (w :: a) with
  | none => rfl
  | some t =>
    by_cases h4 : 400 < t.length + (ind i).length
    · simp [h4]
    · by_cases h5 : it = true ∧ (w = kTemplate ∨ w = kJob)
      · simp [h4, h5]
      · simp only [if_neg h4, if_neg h5, LN]
        cases Go.Pd.line chk d no w a <;> rfl
def LL (r : Nat) (d : Dc) (s : W) (m : Nat) (Y B F L : RL) : Prop := ∃ A n c A' n' c' C, L = (r, ARow.cells tLi [.slice A n c, .slice A' n' c', str s, .int .i64 (m : Nat)]) :: (C ++ F) ∧ RX2 (.agg #[.slice A n c, .slice A' n' c']) d Y B C ∧ s.length ≤ 410 * szD d
def ResL (r : Nat) (B F : RL) (m : Nat) (e : Except Nat (Dc × W)) (v : Value) (L' : RL) : Prop := match e with
  | .error k => v = .int .i64 (k : Nat) ∧ k ≠ 0 ∧ Ends F L'
  | .ok (d', s') => v = .int .i64 0 ∧ ∃ Y', LL r d' s' m Y' B F L'
theorem put_ct {r m : Nat} {s w : W} {a : List W} {i it : Bool} {lv : Value} (h : LL r d s m Y B F L) (hm : m ≤ 1000000000000) (hBF : ∀ p, p ∈ B → p ∈ F) (hlv : Wd (Y ++ B) lv (w :: a)) (hn : (w :: a).length ≤ 9000000000000000) (hw : ∀ x, x ∈ w :: a → x.length ≤ 100000000) :
    CS Tryz.prog 47 [ptr r, lv, str (ind i), .bool it] L fun v L' => ResL r B F (m + 1) (lineR (m + 1) d s w a i it) v L' := by
  obtain ⟨A, n, c, A', n', c', C, rfl, hX, hsl⟩ := h
  obtain ⟨hv, sv, HY, SY, IY, hvE, hC, _, hok, hD⟩ := hX B fun p hp => hp
  have hsz := sz_le hok.ok
  have hYC : ∀ p, p ∈ Y ++ B → p ∈ C ++ B := fun p hp => by rw [hC]; rcases List.mem_append.1 hp with h | h <;> simp [h]
  have hmem : ∀ x, ∀ p, p ∈ Y ++ B → p ∈ x :: (C ++ F) := fun x p hp => by
    rcases List.mem_append.1 (hYC p hp) with h | h
    · simp [h]
    · simp [hBF p h]
  clear hvE hC hD
  obtain ⟨lA, lc, rfl⟩ := hlv.form
  have hlvM := hlv.mono (hmem (r, ARow.cells tLi [.slice A n c, .slice A' n' c', str s, .int .i64 (m + 1 : Nat)]))
  have hil : (ind i).length ≤ 2 := by cases i <;> decide
  suffices h2 : CS Tryz.prog 47 [ptr r, .slice lA (w :: a).length lc, str (ind i), .bool it] ((r, ARow.cells tLi [.slice A n c, .slice A' n' c', str s, .int .i64 (m : Nat)]) :: (C ++ F)) fun v L' => ∃ L₁, Sub L₁ L' ∧ ResL r B F (m + 1) (lineR (m + 1) d s w a i it) v L₁ from h2.less fun v L' h => h
  have hend : ∀ x, Ends F (x :: (C ++ F)) := fun x => by repeat (first | exact Ends.nil | apply Ends.cons | apply Ends.app)
  refine CS.mk (fn := Tryz.f47) rfl rfl rfl rfl ?_
  refine yG ?_
  refine OS.call noGo rfl (fun _ => rfl) ((refJoin_ct hlvM.sv hn (fun j _ x hx => hw x (List.mem_of_getElem? hx))).mono ?_)
  rintro u L' ⟨rfl, rfl⟩
  unfold lineR joinV
  cases hj : joinW (w :: a) with
  | none =>
    refine ⟨_, rfl, ?_⟩
    refine yG ?_
    exact ⟨_, Sub.drops 0 rfl, rfl, by decide, hend _⟩
  | some t =>
    have htl := (joinW_eq hj).2
    have hjb := joined_bound hj
    by_cases h400 : 400 < t.length + (ind i).length
    · have hb : (!ileB ((t.length + (ind i).length : Nat) : Int) 400) = true := by rw [ileB_eq]; simp; omega
      refine ⟨_, rfl, ?_⟩
      refine yG ?_
      simp only [if_pos h400]
      exact ⟨_, Sub.drops 0 rfl, rfl, by decide, hend _⟩
    have hb : (!ileB ((t.length + (ind i).length : Nat) : Int) 400) = false := by rw [ileB_eq]; simp; omega
    simp only [if_neg h400]
    have hlsM := hlvM.sv
    have hg0 : (strs (w :: a))[0]? = some (str w) := rfl
    by_cases hitem : it = true ∧ (w = kTemplate ∨ w = kJob)
    · obtain ⟨rfl, hw2⟩ := hitem
      simp only [if_pos (show True ∧ _ from ⟨trivial, hw2⟩), if_pos (show True ∧ (w = kTemplate ∨ w = kJob) from ⟨trivial, hw2⟩), hw2, true_and, if_true]
      rcases tf (bytesEq w [116, 101, 109, 112, 108, 97, 116, 101]) with c1 | c1
      · refine ⟨_, rfl, ?_⟩
        refine yG ?_
        refine OS.at1 (j := 0) (hlsM) (hg0) rfl rfl rfl rfl rfl rfl (fun ra0 oa0 rowa0 csa0 ma0 ca0 ga0 => ⟨_, rfl, ?_⟩)
        refine OS.read rfl (e_loadm ma0 ca0 rfl rfl (part_one rfl ga0)) rfl ?_
        refine yG ?_
        exact ⟨_, Sub.drops 0 rfl, rfl, by decide, hend _⟩
      · have c2 : bytesEq w [106, 111, 98] = true := by
          rcases hw2 with rfl | rfl
          · cases c1
          · rfl
        refine ⟨_, rfl, ?_⟩
        refine yG ?_
        refine OS.at1 (j := 0) (hlsM) (hg0) rfl rfl rfl rfl rfl rfl (fun ra0 oa0 rowa0 csa0 ma0 ca0 ga0 => ⟨_, rfl, ?_⟩)
        refine OS.read rfl (e_loadm ma0 ca0 rfl rfl (part_one rfl ga0)) rfl ?_
        refine yG ?_
        refine OS.at1 (j := 0) (hlsM) (hg0) rfl rfl rfl rfl rfl rfl (fun ra0 oa0 rowa0 csa0 ma0 ca0 ga0 => ⟨_, rfl, ?_⟩)
        refine OS.read rfl (e_loadm ma0 ca0 rfl rfl (part_one rfl ga0)) rfl ?_
        refine yG ?_
        exact ⟨_, Sub.drops 0 rfl, rfl, by decide, hend _⟩
    simp only [if_neg hitem]
    have hline : ∀ F', (∀ p, p ∈ F → p ∈ F') → CS Tryz.prog 42 [.agg #[.slice A n c, .slice A' n' c'], .int .i64 (m + 1 : Nat), .slice lA (w :: a).length lc] (C ++ F') fun u L' => ∃ A1 n1 c1 A2 n2 c2, ∃ (k : Nat) (K : RL), u = .tuple #[.agg #[.slice A1 n1 c1, .slice A2 n2 c2], .int .i64 (k : Nat)] ∧ L' = K ++ F' ∧ (match LN d (m + 1 : Nat) w a with
        | .error e => k = e ∧ e ≠ 0
        | .ok d' => k = 0 ∧ ∃ Y', RX2 (.agg #[.slice A1 n1 c1, .slice A2 n2 c2]) d' Y' B K) := fun F' hF => by
      refine (line_ct (hX F' fun p hp => hF p (hBF p hp)) hlv (by have := hjb.1; simp only [List.length_cons] at this; omega) (fun x hx => by have := hjb.2 x hx; omega)).mono ?_
      intro u L' hu
      cases hl : LN d (m + 1 : Nat) w a with
      | error e =>
        rw [hl] at hu
        obtain ⟨⟨A1, n1, c1, A2, n2, c2, rfl⟩, hne, Z, rfl⟩ := hu
        exact ⟨_, _, _, _, _, _, e, Z, rfl, rfl, rfl, hne⟩
      | ok d' =>
        rw [hl] at hu
        obtain ⟨v', Y', rfl, hS⟩ := hu
        obtain ⟨A1, n1, c1, A2, n2, c2, rfl⟩ := hS.form
        obtain ⟨K, rfl, hK⟩ := hS.dx
        exact ⟨_, _, _, _, _, _, 0, K, rfl, rfl, rfl, Y', hK⟩
    have hmid : ∀ b : Bool, it = b → (b = true → bytesEq w [116, 101, 109, 112, 108, 97, 116, 101] = false ∧ bytesEq w [106, 111, 98] = false) := fun b hb hb2 => by
      subst hb; subst hb2
      have h1 : ¬ (w = kTemplate ∨ w = kJob) := fun h => hitem ⟨rfl, h⟩
      exact ⟨by rw [beq_bytes]; exact decide_eq_false fun h => h1 (.inl h), by rw [beq_bytes]; exact decide_eq_false fun h => h1 (.inr h)⟩
    cases it with
    | true =>
      obtain ⟨c1, c2⟩ := hmid true rfl rfl
      refine ⟨_, rfl, ?_⟩
      refine yG ?_
      refine OS.at1 (j := 0) (hlsM) (hg0) rfl rfl rfl rfl rfl rfl (fun ra0 oa0 rowa0 csa0 ma0 ca0 ga0 => ⟨_, rfl, ?_⟩)
      refine OS.read rfl (e_loadm ma0 ca0 rfl rfl (part_one rfl ga0)) rfl ?_
      refine yG ?_
      refine OS.at1 (j := 0) (hlsM) (hg0) rfl rfl rfl rfl rfl rfl (fun ra0 oa0 rowa0 csa0 ma0 ca0 ga0 => ⟨_, rfl, ?_⟩)
      refine OS.read rfl (e_loadm ma0 ca0 rfl rfl (part_one rfl ga0)) rfl ?_
      refine yG ?_
      refine LS.mid [0, 2, 9, 10, 11] (fun s1 L' => ∃ A1 n1 c1 A2 n2 c2, ∃ (k : Nat) (K : RL) (r11 : Nat), (match LN d (m + 1 : Nat) w a with
        | .error e => k = e ∧ e ≠ 0
        | .ok d' => k = 0 ∧ ∃ Y', RX2 (.agg #[.slice A1 n1 c1, .slice A2 n2 c2]) d' Y' B K) ∧ s1 = [ptr r, .chan none, str (ind i), .chan none, .chan none, .chan none, .chan none, .chan none, .chan none, str t, .int .i64 (k : Nat), ptr r11, .chan none, .chan none, .chan none, .chan none, .chan none, .chan none, .chan none, .chan none, .chan none, .chan none, .chan none, .chan none, .chan none, .chan none, .chan none, .chan none, .chan none, .chan none, .chan none, .chan none, .chan none, .chan none, .chan none, .chan none, .chan none, .chan none, .chan none, .chan none, .chan none, .chan none, .chan none, .chan none, .chan none, .chan none, .chan none, .chan none, .chan none, .chan none, .chan none, .chan none, .chan none, .chan none, .chan none, .chan none, .chan none, .chan none, .chan none, .chan none, .chan none, .chan none, .chan none, .chan none, .chan none, .chan none, .chan none, .chan none, .chan none, .chan none, .chan none, .chan none, .chan none, .chan none, .chan none, .chan none, .chan none] ∧ L' = (r11, ARow.cells tDd [.slice A1 n1 c1, .slice A2 n2 c2]) :: (r, ARow.cells tLi [.slice A n c, .slice A' n' c', str s, .int .i64 (m + 1 : Nat)]) :: (K ++ F)) ?_ ?_
      · refine LS.forked noGo mixed 16 rfl rfl (by kernel_rfl) ?_
        refine OGS.pure 0 (by kernel_rfl) rfl rfl (fun _ => rfl) rfl ?_
        refine OGS.pure 1 (by kernel_rfl) rfl rfl (fun _ => rfl) rfl ?_
        refine OGS.pure 2 (by kernel_rfl) rfl rfl (fun _ => rfl) rfl ?_
        refine OGS.read 3 (by kernel_rfl) rfl rfl (e_load 0 rfl rfl rfl rfl rfl) rfl ?_
        refine OGS.pure 4 (by kernel_rfl) rfl rfl (fun _ => rfl) rfl ?_
        refine OGS.pure 5 (by kernel_rfl) rfl rfl (fun _ => rfl) rfl ?_
        refine OGS.pure 6 (by kernel_rfl) rfl rfl (fun _ => rfl) rfl ?_
        refine OGS.read 7 (by kernel_rfl) rfl rfl (e_load 0 rfl rfl rfl rfl rfl) rfl ?_
        refine OGS.pure 8 (by kernel_rfl) rfl rfl (fun _ => rfl) rfl ?_
        refine OGS.turn2 9 13 (by kernel_rfl) (by kernel_rfl) ?_ ?_
        · refine OT.call rfl rfl (fun _ => rfl) ((CS.sub (Sub.sums (A := C ++ ((r, ARow.cells tLi [.slice A n c, .slice A' n' c', str s, .int .i64 (m + 1 : Nat)]) :: F)) fun f => by simp <;> omega) (hline ((r, ARow.cells tLi [.slice A n c, .slice A' n' c', str s, .int .i64 (m + 1 : Nat)]) :: F) fun p hp => List.mem_cons_of_mem _ hp)).mono ?_)
          rintro u L₁ ⟨A1, n1, c1, A2, n2, c2, k, K, rfl, rfl, hR⟩
          refine ⟨_, rfl, Keep.gone rfl (Keep.gone rfl Keep.nil), ?_⟩
          refine OGS.pure 10 (by kernel_rfl) rfl rfl (fun _ => rfl) rfl ?_
          refine OGS.pure 11 (by kernel_rfl) rfl rfl (fun _ => rfl) rfl ?_
          refine OGS.pure 12 (by kernel_rfl) rfl rfl (fun _ => rfl) rfl ?_
          have hmJ : ∀ x : Nat × ARow, (r, ARow.cells tLi [.slice A n c, .slice A' n' c', str s, .int .i64 (m + 1 : Nat)]) ∈ (x :: (K ++ (r, ARow.cells tLi [.slice A n c, .slice A' n' c', str s, .int .i64 (m + 1 : Nat)]) :: F) : RL) := fun x => by simp
          refine OGS.turn1 13 (by kernel_rfl) (by kernel_rfl) (OT.fresh rfl rfl (e_new (fun _ => rfl) rfl) (fun _ => rfl) (fun r11 => (by repeat (first | exact Keep.nil | refine Keep.gone rfl ?_ | refine Keep.cons rfl (e_loadm (hmJ _) rfl rfl rfl rfl) ?_))) (fun r11 => ?_))
          refine OGS.turn1 14 (by kernel_rfl) (by kernel_rfl) (OT.write rfl rfl (e_store 0 rfl rfl rfl rfl rfl rfl rfl rfl) rfl (by repeat (first | exact Keep.nil | refine Keep.gone rfl ?_)) ?_)
          refine OGS.pure 15 (by kernel_rfl) rfl rfl (fun _ => rfl) rfl ?_
          refine OGS.sub (Sub.sums (A := (r11, ARow.cells tDd [.slice A1 n1 c1, .slice A2 n2 c2]) :: (r, ARow.cells tLi [.slice A n c, .slice A' n' c', str s, .int .i64 (m + 1 : Nat)]) :: (K ++ F)) fun f => by simp <;> omega) ?_
          exact OGS.nil (by kernel_rfl) ⟨A1, n1, c1, A2, n2, c2, k, K, r11, hR, rfl, rfl⟩
        · have hm0 : ∀ x : Nat × ARow, (r, ARow.cells tLi [.slice A n c, .slice A' n' c', str s, .int .i64 (m + 1 : Nat)]) ∈ (x :: (r, ARow.cells tLi [.slice A n c, .slice A' n' c', str s, .int .i64 (m + 1 : Nat)]) :: (C ++ F) : RL) := fun x => by simp
          refine OT.fresh rfl rfl (e_new (fun _ => rfl) rfl) (fun _ => rfl) (fun r11 => (by repeat (first | exact Keep.nil | refine Keep.gone rfl ?_ | refine Keep.cons rfl (e_loadm (hm0 _) rfl rfl rfl rfl) ?_))) (fun r11 => ?_)
          show OGS _ _ _ _ _ _ _ _ ((r11, ARow.cells tDd [.slice none 0 0, .slice none 0 0]) :: _)
          refine OGS.turn1 9 (by kernel_rfl) (by kernel_rfl) (OT.call rfl rfl (fun _ => rfl) ((CS.sub (Sub.sums (A := C ++ ((r11, ARow.cells tDd [.slice none 0 0, .slice none 0 0]) :: (r, ARow.cells tLi [.slice A n c, .slice A' n' c', str s, .int .i64 (m + 1 : Nat)]) :: F)) fun f => by simp [tDd] <;> omega) (hline ((r11, ARow.cells tDd [.slice none 0 0, .slice none 0 0]) :: (r, ARow.cells tLi [.slice A n c, .slice A' n' c', str s, .int .i64 (m + 1 : Nat)]) :: F) fun p hp => List.mem_cons_of_mem _ (List.mem_cons_of_mem _ hp))).mono ?_))
          rintro u L₁ ⟨A1, n1, c1, A2, n2, c2, k, K, rfl, rfl, hR⟩
          refine ⟨_, rfl, (by repeat (first | exact Keep.nil | refine Keep.gone rfl ?_)), ?_⟩
          refine OGS.sub (Sub.sums (A := (r11, ARow.cells tDd [.slice none 0 0, .slice none 0 0]) :: (r, ARow.cells tLi [.slice A n c, .slice A' n' c', str s, .int .i64 (m + 1 : Nat)]) :: (K ++ F)) fun f => by simp <;> omega) ?_
          refine OGS.pure 10 (by kernel_rfl) rfl rfl (fun _ => rfl) rfl ?_
          refine OGS.pure 11 (by kernel_rfl) rfl rfl (fun _ => rfl) rfl ?_
          refine OGS.pure 12 (by kernel_rfl) rfl rfl (fun _ => rfl) rfl ?_
          refine OGS.turn1 14 (by kernel_rfl) (by kernel_rfl) (OT.write rfl rfl (e_store 0 rfl rfl rfl rfl rfl rfl rfl rfl) rfl (by repeat (first | exact Keep.nil | refine Keep.gone rfl ?_)) ?_)
          refine OGS.pure 15 (by kernel_rfl) rfl rfl (fun _ => rfl) rfl ?_
          exact OGS.nil (by kernel_rfl) ⟨A1, n1, c1, A2, n2, c2, k, K, r11, hR, rfl, rfl⟩
      rintro s1 L' ⟨A1, n1, c1, A2, n2, c2, k, K, r11, hR, rfl, rfl⟩
      refine yG ?_
      refine OS.pure rfl (e_cat (xs := s) (ys := ind i) rfl rfl rfl (by omega)) rfl ?_
      refine yG ?_
      refine OS.pure rfl (e_cat (xs := s ++ ind i) (ys := t) rfl rfl rfl (by simp; omega)) rfl ?_
      refine OS.pure rfl (e_cat (xs := s ++ ind i ++ t) (ys := [10]) rfl rfl rfl (by simp; omega)) rfl ?_
      rw [show s ++ ind i ++ t ++ [10] = s ++ (ind i ++ t ++ [10]) by simp]
      refine yG ?_
      cases hl : LN d (m + 1 : Nat) w a with
      | error e =>
        rw [hl] at hR
        obtain ⟨rfl, hne⟩ := hR
        exact ⟨_, Sub.drops 0 rfl, rfl, hne, by repeat (first | exact Ends.nil | apply Ends.cons | apply Ends.app)⟩
      | ok d' =>
        rw [hl] at hR
        obtain ⟨rfl, Y', hK⟩ := hR
        have hsz2 := sz_line hl
        exact ⟨_, Sub.drops 1 rfl, rfl, Y', A1, n1, c1, A2, n2, c2, K, rfl, hK, by simp only [List.length_append, List.length_singleton]; omega⟩
    | false =>
      refine ⟨_, rfl, ?_⟩
      refine yG ?_
      refine LS.mid [0, 2, 9, 10, 11] (fun s1 L' => ∃ A1 n1 c1 A2 n2 c2, ∃ (k : Nat) (K : RL) (r11 : Nat), (match LN d (m + 1 : Nat) w a with
        | .error e => k = e ∧ e ≠ 0
        | .ok d' => k = 0 ∧ ∃ Y', RX2 (.agg #[.slice A1 n1 c1, .slice A2 n2 c2]) d' Y' B K) ∧ s1 = [ptr r, .chan none, str (ind i), .chan none, .chan none, .chan none, .chan none, .chan none, .chan none, str t, .int .i64 (k : Nat), ptr r11, .chan none, .chan none, .chan none, .chan none, .chan none, .chan none, .chan none, .chan none, .chan none, .chan none, .chan none, .chan none, .chan none, .chan none, .chan none, .chan none, .chan none, .chan none, .chan none, .chan none, .chan none, .chan none, .chan none, .chan none, .chan none, .chan none, .chan none, .chan none, .chan none, .chan none, .chan none, .chan none, .chan none, .chan none, .chan none, .chan none, .chan none, .chan none, .chan none, .chan none, .chan none, .chan none, .chan none, .chan none, .chan none, .chan none, .chan none, .chan none, .chan none, .chan none, .chan none, .chan none, .chan none, .chan none, .chan none, .chan none, .chan none, .chan none, .chan none, .chan none, .chan none, .chan none, .chan none, .chan none, .chan none] ∧ L' = (r11, ARow.cells tDd [.slice A1 n1 c1, .slice A2 n2 c2]) :: (r, ARow.cells tLi [.slice A n c, .slice A' n' c', str s, .int .i64 (m + 1 : Nat)]) :: (K ++ F)) ?_ ?_
      · refine LS.forked noGo mixed 16 rfl rfl (by kernel_rfl) ?_
        refine OGS.pure 0 (by kernel_rfl) rfl rfl (fun _ => rfl) rfl ?_
        refine OGS.pure 1 (by kernel_rfl) rfl rfl (fun _ => rfl) rfl ?_
        refine OGS.pure 2 (by kernel_rfl) rfl rfl (fun _ => rfl) rfl ?_
        refine OGS.read 3 (by kernel_rfl) rfl rfl (e_load 0 rfl rfl rfl rfl rfl) rfl ?_
        refine OGS.pure 4 (by kernel_rfl) rfl rfl (fun _ => rfl) rfl ?_
        refine OGS.pure 5 (by kernel_rfl) rfl rfl (fun _ => rfl) rfl ?_
        refine OGS.pure 6 (by kernel_rfl) rfl rfl (fun _ => rfl) rfl ?_
        refine OGS.read 7 (by kernel_rfl) rfl rfl (e_load 0 rfl rfl rfl rfl rfl) rfl ?_
        refine OGS.pure 8 (by kernel_rfl) rfl rfl (fun _ => rfl) rfl ?_
        refine OGS.turn2 9 13 (by kernel_rfl) (by kernel_rfl) ?_ ?_
        · refine OT.call rfl rfl (fun _ => rfl) ((CS.sub (Sub.sums (A := C ++ ((r, ARow.cells tLi [.slice A n c, .slice A' n' c', str s, .int .i64 (m + 1 : Nat)]) :: F)) fun f => by simp <;> omega) (hline ((r, ARow.cells tLi [.slice A n c, .slice A' n' c', str s, .int .i64 (m + 1 : Nat)]) :: F) fun p hp => List.mem_cons_of_mem _ hp)).mono ?_)
          rintro u L₁ ⟨A1, n1, c1, A2, n2, c2, k, K, rfl, rfl, hR⟩
          refine ⟨_, rfl, Keep.gone rfl (Keep.gone rfl Keep.nil), ?_⟩
          refine OGS.pure 10 (by kernel_rfl) rfl rfl (fun _ => rfl) rfl ?_
          refine OGS.pure 11 (by kernel_rfl) rfl rfl (fun _ => rfl) rfl ?_
          refine OGS.pure 12 (by kernel_rfl) rfl rfl (fun _ => rfl) rfl ?_
          have hmJ : ∀ x : Nat × ARow, (r, ARow.cells tLi [.slice A n c, .slice A' n' c', str s, .int .i64 (m + 1 : Nat)]) ∈ (x :: (K ++ (r, ARow.cells tLi [.slice A n c, .slice A' n' c', str s, .int .i64 (m + 1 : Nat)]) :: F) : RL) := fun x => by simp
          refine OGS.turn1 13 (by kernel_rfl) (by kernel_rfl) (OT.fresh rfl rfl (e_new (fun _ => rfl) rfl) (fun _ => rfl) (fun r11 => (by repeat (first | exact Keep.nil | refine Keep.gone rfl ?_ | refine Keep.cons rfl (e_loadm (hmJ _) rfl rfl rfl rfl) ?_))) (fun r11 => ?_))
          refine OGS.turn1 14 (by kernel_rfl) (by kernel_rfl) (OT.write rfl rfl (e_store 0 rfl rfl rfl rfl rfl rfl rfl rfl) rfl (by repeat (first | exact Keep.nil | refine Keep.gone rfl ?_)) ?_)
          refine OGS.pure 15 (by kernel_rfl) rfl rfl (fun _ => rfl) rfl ?_
          refine OGS.sub (Sub.sums (A := (r11, ARow.cells tDd [.slice A1 n1 c1, .slice A2 n2 c2]) :: (r, ARow.cells tLi [.slice A n c, .slice A' n' c', str s, .int .i64 (m + 1 : Nat)]) :: (K ++ F)) fun f => by simp <;> omega) ?_
          exact OGS.nil (by kernel_rfl) ⟨A1, n1, c1, A2, n2, c2, k, K, r11, hR, rfl, rfl⟩
        · have hm0 : ∀ x : Nat × ARow, (r, ARow.cells tLi [.slice A n c, .slice A' n' c', str s, .int .i64 (m + 1 : Nat)]) ∈ (x :: (r, ARow.cells tLi [.slice A n c, .slice A' n' c', str s, .int .i64 (m + 1 : Nat)]) :: (C ++ F) : RL) := fun x => by simp
          refine OT.fresh rfl rfl (e_new (fun _ => rfl) rfl) (fun _ => rfl) (fun r11 => (by repeat (first | exact Keep.nil | refine Keep.gone rfl ?_ | refine Keep.cons rfl (e_loadm (hm0 _) rfl rfl rfl rfl) ?_))) (fun r11 => ?_)
          show OGS _ _ _ _ _ _ _ _ ((r11, ARow.cells tDd [.slice none 0 0, .slice none 0 0]) :: _)
          refine OGS.turn1 9 (by kernel_rfl) (by kernel_rfl) (OT.call rfl rfl (fun _ => rfl) ((CS.sub (Sub.sums (A := C ++ ((r11, ARow.cells tDd [.slice none 0 0, .slice none 0 0]) :: (r, ARow.cells tLi [.slice A n c, .slice A' n' c', str s, .int .i64 (m + 1 : Nat)]) :: F)) fun f => by simp [tDd] <;> omega) (hline ((r11, ARow.cells tDd [.slice none 0 0, .slice none 0 0]) :: (r, ARow.cells tLi [.slice A n c, .slice A' n' c', str s, .int .i64 (m + 1 : Nat)]) :: F) fun p hp => List.mem_cons_of_mem _ (List.mem_cons_of_mem _ hp))).mono ?_))
          rintro u L₁ ⟨A1, n1, c1, A2, n2, c2, k, K, rfl, rfl, hR⟩
          refine ⟨_, rfl, (by repeat (first | exact Keep.nil | refine Keep.gone rfl ?_)), ?_⟩
          refine OGS.sub (Sub.sums (A := (r11, ARow.cells tDd [.slice none 0 0, .slice none 0 0]) :: (r, ARow.cells tLi [.slice A n c, .slice A' n' c', str s, .int .i64 (m + 1 : Nat)]) :: (K ++ F)) fun f => by simp <;> omega) ?_
          refine OGS.pure 10 (by kernel_rfl) rfl rfl (fun _ => rfl) rfl ?_
          refine OGS.pure 11 (by kernel_rfl) rfl rfl (fun _ => rfl) rfl ?_
          refine OGS.pure 12 (by kernel_rfl) rfl rfl (fun _ => rfl) rfl ?_
          refine OGS.turn1 14 (by kernel_rfl) (by kernel_rfl) (OT.write rfl rfl (e_store 0 rfl rfl rfl rfl rfl rfl rfl rfl) rfl (by repeat (first | exact Keep.nil | refine Keep.gone rfl ?_)) ?_)
          refine OGS.pure 15 (by kernel_rfl) rfl rfl (fun _ => rfl) rfl ?_
          exact OGS.nil (by kernel_rfl) ⟨A1, n1, c1, A2, n2, c2, k, K, r11, hR, rfl, rfl⟩
      rintro s1 L' ⟨A1, n1, c1, A2, n2, c2, k, K, r11, hR, rfl, rfl⟩
      refine yG ?_
      refine OS.pure rfl (e_cat (xs := s) (ys := ind i) rfl rfl rfl (by omega)) rfl ?_
      refine yG ?_
      refine OS.pure rfl (e_cat (xs := s ++ ind i) (ys := t) rfl rfl rfl (by simp; omega)) rfl ?_
      refine OS.pure rfl (e_cat (xs := s ++ ind i ++ t) (ys := [10]) rfl rfl rfl (by simp; omega)) rfl ?_
      rw [show s ++ ind i ++ t ++ [10] = s ++ (ind i ++ t ++ [10]) by simp]
      refine yG ?_
      cases hl : LN d (m + 1 : Nat) w a with
      | error e =>
        rw [hl] at hR
        obtain ⟨rfl, hne⟩ := hR
        exact ⟨_, Sub.drops 0 rfl, rfl, hne, by repeat (first | exact Ends.nil | apply Ends.cons | apply Ends.app)⟩
      | ok d' =>
        rw [hl] at hR
        obtain ⟨rfl, Y', hK⟩ := hR
        have hsz2 := sz_line hl
        exact ⟨_, Sub.drops 1 rfl, rfl, Y', A1, n1, c1, A2, n2, c2, K, rfl, hK, by simp only [List.length_append, List.length_singleton]; omega⟩
end
end Go.Proofs.YtllcbjaajffaeaaGreatDoor
namespace Go.Proofs.YtllcbjaajffaeaaGreatDoor
open Go.Am Go.Pd
set_option linter.unusedVariables false
set_option linter.unusedSimpArgs false
set_option maxRecDepth 20000
set_option maxHeartbeats 8000000
attribute [local irreducible] OS LSr ODS CS YS
theorem lineR_sz {no : Nat} {d d' : Dc} {s s' w : W} {a : List W} {i it : Bool} (h : lineR no d s w a i it = .ok (d', s')) : szD d' = szD d + 1 := by
  unfold lineR at h
  split at h
  · cases h
  · split at h
    · cases h
    · split at h
      · cases h
      · cases hl : LN d no w a with
        | error e => rw [hl] at h; cases h
        | ok d2 =>
          rw [hl] at h
          obtain ⟨rfl, rfl⟩ := (Prod.mk.injEq ..).mp (Except.ok.inj h)
          exact sz_line hl
theorem RX2.small {v : Value} {d : Dc} {Y B C : RL} (h : RX2 v d Y B C) : szD d ≤ 2008 := by
  obtain ⟨hv, sv, HY, SY, IY, hvE, hC, _, hok, hD⟩ := h B fun p hp => hp
  exact sz_le hok.ok
def ItT (x : It) : Prop := x.args.length ≤ 100000000 ∧ ∀ w, w ∈ x.word :: x.args → w.length ≤ 100000000
def DocT (d : Dc) : Prop := d.head.length ≤ 100000000 ∧ (∀ x, x ∈ d.head → ItT x) ∧ d.secs.length ≤ 100000000 ∧ ∀ y, y ∈ d.secs → y.name.length ≤ 100000000 ∧ y.items.length ≤ 100000000 ∧ ∀ x, x ∈ y.items → ItT x
section
variable {F M : RL} {D : Dc} {v : Value}
theorem refPrint_ct (hV : DocA M v D) (hM : ∀ p, p ∈ M → p ∈ F) (hT : DocT D) : CS Tryz.prog 19 [v] F fun v L' => (match printD chk joinW D with
    | .error k => v = .tuple #[str [], .int .i64 (k : Nat)]
    | .ok (_, s) => v = .tuple #[str s, .int .i64 0]) ∧ Ends F L' := by
  generalize hR1 : printD chk joinW D = R
  obtain ⟨hv, sv, hcs, scs, rfl, hh, hI, hS, hSR⟩ := hV
  obtain ⟨hA, hc, rfl⟩ := hh.form
  obtain ⟨sA, sc, rfl⟩ := hS.form
  obtain ⟨hT1, hT2, hT3, hT4⟩ := hT
  refine CS.mk (fn := Tryz.f19) rfl rfl rfl rfl ?_
  refine yG ?_
  refine OS.fresh rfl (e_new (fun _ => rfl) rfl) (fun _ => rfl) (fun r1 => ?_)
  show OS _ _ _ _ ((r1, ARow.cells tDd [.slice hA D.head.length hc, .slice sA D.secs.length sc]) :: _) _
  refine yG ?_
  refine OS.fresh rfl (e_new (fun _ => rfl) rfl) (fun _ => rfl) (fun r4 => ?_)
  show OS _ _ _ _ ((r4, ARow.cells tLi [.slice none 0 0, .slice none 0 0, str [], .int .i64 0]) :: _) _
  refine OS.sub (Sub.sums (A := (r1, ARow.cells tDd [.slice hA D.head.length hc, .slice sA D.secs.length sc]) :: (r4, ARow.cells tLi [.slice none 0 0, .slice none 0 0, str [], .int .i64 0]) :: F) fun f => by simp <;> omega) ?_
  refine yG ?_
  refine LS.loopJ [1, 4, 5] (fun q a L' => ∃ (j : Nat) (d1 : Dc) (s1 : W) (Y1 : RL) (A : Option Addr) (n c : Nat) (A' : Option Addr) (n' c' : Nat) (C : RL), q = D.head.length - j ∧ j ≤ D.head.length ∧
      R = (match putL chk joinW (j + 1) d1 s1 ((D.head.drop j).map fun x => x.ln false) with | .error e => .error e | .ok (d', s') => printS chk joinW (1 + D.head.length) d' s' D.secs) ∧ szD d1 = j ∧ s1.length ≤ 410 * szD d1 ∧ RX2 (.agg #[.slice A n c, .slice A' n' c']) d1 Y1 [] C ∧
      L' = (r1, ARow.cells tDd [.slice hA D.head.length hc, .slice sA D.secs.length sc]) :: (r4, ARow.cells tLi [.slice A n c, .slice A' n' c', str s1, .int .i64 (j : Nat)]) :: (C ++ F) ∧
      a = [.chan none, ptr r1, .chan none, .chan none, ptr r4, .int .i64 (j : Nat), .chan none, .chan none, .chan none, .chan none, .chan none, .chan none, .chan none, .chan none, .chan none, .chan none, .chan none, .chan none, .chan none, .chan none, .chan none, .chan none, .chan none, .chan none, .chan none, .chan none, .chan none, .chan none, .chan none, .chan none, .chan none, .chan none, .chan none, .chan none, .chan none, .chan none, .chan none, .chan none, .chan none, .chan none, .chan none, .chan none, .chan none, .chan none, .chan none, .chan none, .chan none, .chan none, .chan none, .chan none, .chan none, .chan none, .chan none, .chan none, .chan none, .chan none, .chan none, .chan none, .chan none, .chan none, .chan none, .chan none, .chan none, .chan none, .chan none, .chan none, .chan none, .chan none, .chan none, .chan none, .chan none, .chan none, .chan none, .chan none, .chan none, .chan none, .chan none, .chan none, .chan none, .chan none, .chan none, .chan none]) (n := D.head.length) rfl ⟨0, ⟨[], []⟩, [], [], none, 0, 0, none, 0, 0, [], by omega, by omega, by rw [← hR1]; rfl, rfl, by simp, RX2.nil, rfl, rfl⟩ ?_
  rintro q a L' ⟨j, d1, s1, Y1, A, n, c, A', n', c', C, rfl, hj, hE, hsz, hsl, hX, rfl, rfl⟩
  have hsm := hX.small
  by_cases hjn : j < D.head.length
  · have hb : (!ileB ((D.head.length : Nat) : Int) (j : Nat)) = true := by rw [ileB_eq]; simp; omega
    have hxj : D.head[j]? = some D.head[j] := List.getElem?_eq_getElem hjn
    have hdr : D.head.drop j = D.head[j] :: D.head.drop (j + 1) := List.drop_eq_getElem_cons hjn
    have hxT := hT2 _ (List.getElem_mem hjn)
    generalize D.head[j] = x at hxj hdr hxT
    rw [hdr, List.map_cons, show x.ln false = (x.word :: x.args, false, true) from rfl, putL_R] at hE
    obtain ⟨av, hcut, hav⟩ := hI.at hxj
    have hhL := hh.up (G := (r1, ARow.cells tDd [.slice hA D.head.length hc, .slice sA D.secs.length sc]) :: (r4, ARow.cells tLi [.slice A n c, .slice A' n' c', str s1, .int .i64 (j : Nat)]) :: (C ++ F)) fun p hp => by simp [hM p hp]
    have havL := hav.up (G := (r1, ARow.cells tDd [.slice hA D.head.length hc, .slice sA D.secs.length sc]) :: (r4, ARow.cells tLi [.slice A n c, .slice A' n' c', str s1, .int .i64 (j : Nat)]) :: (C ++ F)) fun p hp => by simp [hM p hp]
    refine yG ?_
    refine OS.at (j := j) hhL hjn rfl rfl rfl rfl rfl rfl (fun r0 o0 row0 cs0 m0 c0 g0 k0 => ?_)
    refine ⟨_, rfl, ?_⟩
    refine OS.read rfl (e_loadm m0 c0 rfl rfl (part_agg rfl rfl (k0 _ hcut))) rfl ?_
    refine OS.call noGo rfl (fun _ => rfl) ((words_ct havL (by have := hxT.1; omega)).mono ?_)
    rintro u L' ⟨rI, rfl, rfl⟩
    refine ⟨_, rfl, ?_⟩
    obtain ⟨C', hC', hs'⟩ := hX.row (rI, .cells 9 (strs (x.word :: x.args)))
    refine OS.sub (Sub.trans (Sub.sums (A := (r4, ARow.cells tLi [.slice A n c, .slice A' n' c', str s1, .int .i64 (j : Nat)]) :: (C' ++ ((r1, ARow.cells tDd [.slice hA D.head.length hc, .slice sA D.secs.length sc]) :: F))) (B := C' ++ ((r4, ARow.cells tLi [.slice A n c, .slice A' n' c', str s1, .int .i64 (j : Nat)]) :: (r1, ARow.cells tDd [.slice hA D.head.length hc, .slice sA D.secs.length sc]) :: F)) fun f => by simp <;> omega) (Sub.trans (hs' _) (Sub.sums fun f => by simp <;> omega))) ?_
    refine OS.call noGo rfl (fun _ => rfl) ((put_ct (i := false) (it := true) (B := []) ⟨A, n, c, A', n', c', C', rfl, hC', hsl⟩ (by omega) (fun p hp => by cases hp) (.inr ⟨rI, 0, openCap, _, strs (x.word :: x.args), rfl, List.mem_cons_self .., rfl, cut_all (by simp [strs]), .inl ⟨rfl, rfl, allS_strs _⟩⟩) (by simp only [List.length_cons]; have := hxT.1; omega) hxT.2).mono ?_)
    intro u L' hres
    refine ⟨_, rfl, ?_⟩
    cases he : lineR (j + 1) d1 s1 x.word x.args false true with
    | error e =>
      rw [he] at hres hE
      obtain ⟨rfl, hne, Z, rfl⟩ := hres
      have hbe : (!ieqB ((e : Nat) : Int) 0) = true := by rw [ieqB_eq]; simp; omega
      refine yG ?_
      rw [hE]
      exact ⟨rfl, by repeat (first | exact Ends.nil | apply Ends.cons | apply Ends.app)⟩
    | ok p =>
      obtain ⟨d2, s2⟩ := p
      have hsz2 := lineR_sz he
      rw [he] at hres hE
      obtain ⟨rfl, Y2, A1, n1, c1, A2, n2, c2, K, rfl, hX2, hsl2⟩ := hres
      refine OS.sub (Sub.sums (A := (r1, ARow.cells tDd [.slice hA D.head.length hc, .slice sA D.secs.length sc]) :: (r4, ARow.cells tLi [.slice A1 n1 c1, .slice A2 n2 c2, str s2, .int .i64 (j + 1 : Nat)]) :: (K ++ F)) fun f => by simp <;> omega) ?_
      refine yG ?_
      exact ⟨D.head.length - (j + 1), by omega, j + 1, d2, s2, Y2, A1, n1, c1, A2, n2, c2, K, rfl, by omega, hE, by omega, hsl2, hX2, rfl, rfl⟩
  have hb : (!ileB ((D.head.length : Nat) : Int) (j : Nat)) = false := by rw [ileB_eq]; simp; omega
  obtain rfl : j = D.head.length := by omega
  rw [List.drop_eq_nil_of_le (by omega), List.map_nil, putL] at hE
  refine yG ?_
  refine LS.exit ?_
  refine yG ?_
  rw [show 1 + D.head.length = D.head.length + 1 by omega] at hE
  refine LS.loopJ [1, 4, 7] (fun q a L' => ∃ (j m : Nat) (d1 : Dc) (s1 : W) (Y1 : RL) (A : Option Addr) (n c : Nat) (A' : Option Addr) (n' c' : Nat) (C : RL), q = D.secs.length - j ∧ j ≤ D.secs.length ∧
      R = printS chk joinW (m + 1) d1 s1 (D.secs.drop j) ∧ szD d1 = m ∧ s1.length ≤ 410 * szD d1 ∧ RX2 (.agg #[.slice A n c, .slice A' n' c']) d1 Y1 [] C ∧
      L' = (r1, ARow.cells tDd [.slice hA D.head.length hc, .slice sA D.secs.length sc]) :: (r4, ARow.cells tLi [.slice A n c, .slice A' n' c', str s1, .int .i64 (m : Nat)]) :: (C ++ F) ∧
      a = [.chan none, ptr r1, .chan none, .chan none, ptr r4, .chan none, .chan none, .int .i64 (j : Nat), .chan none, .chan none, .chan none, .chan none, .chan none, .chan none, .chan none, .chan none, .chan none, .chan none, .chan none, .chan none, .chan none, .chan none, .chan none, .chan none, .chan none, .chan none, .chan none, .chan none, .chan none, .chan none, .chan none, .chan none, .chan none, .chan none, .chan none, .chan none, .chan none, .chan none, .chan none, .chan none, .chan none, .chan none, .chan none, .chan none, .chan none, .chan none, .chan none, .chan none, .chan none, .chan none, .chan none, .chan none, .chan none, .chan none, .chan none, .chan none, .chan none, .chan none, .chan none, .chan none, .chan none, .chan none, .chan none, .chan none, .chan none, .chan none, .chan none, .chan none, .chan none, .chan none, .chan none, .chan none, .chan none, .chan none, .chan none, .chan none, .chan none, .chan none, .chan none, .chan none, .chan none, .chan none]) (n := D.secs.length) rfl ⟨0, D.head.length, d1, s1, Y1, A, n, c, A', n', c', C, by omega, by omega, hE, hsz, hsl, hX, rfl, rfl⟩ ?_
  clear hX hsl hsz hE hsm
  clear s1 d1 Y1 C
  rintro q a L' ⟨j, m, d1, s1, Y1, A, n, c, A', n', c', C, rfl, hj, hE, hsz, hsl, hX, rfl, rfl⟩
  have hsm := hX.small
  by_cases hjn : j < D.secs.length
  · have hb : (!ileB ((D.secs.length : Nat) : Int) (j : Nat)) = true := by rw [ileB_eq]; simp; omega
    have hxj : D.secs[j]? = some D.secs[j] := List.getElem?_eq_getElem hjn
    have hdr : D.secs.drop j = D.secs[j] :: D.secs.drop (j + 1) := List.drop_eq_getElem_cons hjn
    have hyT := hT4 _ (List.getElem_mem hjn)
    generalize D.secs[j] = y at hxj hdr hyT
    rw [hdr, printS] at hE
    obtain ⟨iv, ics, hcut, hiv, hiI⟩ := hSR.at hxj
    obtain ⟨iA, ic, rfl⟩ := hiv.form
    have hSL := hS.up (G := (r1, ARow.cells tDd [.slice hA D.head.length hc, .slice sA D.secs.length sc]) :: (r4, ARow.cells tLi [.slice A n c, .slice A' n' c', str s1, .int .i64 (m : Nat)]) :: (C ++ F)) fun p hp => by simp [hM p hp]
    refine yG ?_
    refine OS.at (j := j) hSL hjn rfl rfl rfl rfl rfl rfl (fun r0 o0 row0 cs0 m0 c0 g0 k0 => ?_)
    refine ⟨_, rfl, ?_⟩
    refine yG ?_
    refine OS.read rfl (e_loadm m0 c0 rfl rfl (part_agg rfl rfl (k0 _ hcut))) rfl ?_
    refine yG ?_
    refine OS.fresh rfl (e_new (fun _ => rfl) rfl) (fun _ => rfl) (fun r8 => ?_)
    show OS _ _ _ _ ((r8, ARow.cells tZ [.int .i64 0, .int .u8 0, str [], .slice none 0 0]) :: _) _
    have k1 : ieqB ((y.kind.toNat : Nat) : Int) 1 = (y.kind == 1) := cmp_u8 (k := 1) y.kind 1 rfl
    have k2 : ieqB ((y.kind.toNat : Nat) : Int) 2 = (y.kind == 2) := cmp_u8 (k := 2) y.kind 2 rfl
    by_cases hk1 : y.kind = 1
    · have e1 : ieqB ((y.kind.toNat : Nat) : Int) 1 = true := by rw [k1]; simpa using hk1
      have hk2 : ¬ y.kind = 2 := by rw [hk1]; decide
      rw [if_neg (by simp [hk1]), show y.lns = ([kTemplate, y.name], false, false) :: y.items.map (fun x => x.ln true) by unfold Se.lns; rw [if_neg hk2], putL_R] at hE
      have hkl : kTemplate.length ≤ 100000000 := by decide
      have hkw : kTemplate = [116, 101, 109, 112, 108, 97, 116, 101] := rfl
      refine yG ?_
      refine OS.fresh rfl (e_new (fun _ => rfl) rfl) (fun _ => rfl) (fun rl => ?_)
      refine OS.opened 54 0 (sz := 1) rfl rfl rfl (by simp) (by decide) rfl ?_
      obtain ⟨C', hC', hs'⟩ := hX.row (rl, ARow.cells 9 (strs (kTemplate :: [y.name])))
      refine OS.sub (Sub.trans (Sub.sums (A := (r4, ARow.cells tLi [.slice A n c, .slice A' n' c', str s1, .int .i64 (m : Nat)]) :: (C' ++ ((r8, ARow.cells tZ [.int .i64 y.no, .int .u8 (y.kind.toNat : Nat), str y.name, .slice iA y.items.length ic]) :: (r1, ARow.cells tDd [.slice hA D.head.length hc, .slice sA D.secs.length sc]) :: F))) (B := C' ++ ((r4, ARow.cells tLi [.slice A n c, .slice A' n' c', str s1, .int .i64 (m : Nat)]) :: (r8, ARow.cells tZ [.int .i64 y.no, .int .u8 (y.kind.toNat : Nat), str y.name, .slice iA y.items.length ic]) :: (r1, ARow.cells tDd [.slice hA D.head.length hc, .slice sA D.secs.length sc]) :: F)) fun f => by simp <;> omega) (Sub.trans (hs' _) (Sub.sums fun f => by simp [strs, kTemplate, kJob] <;> omega))) ?_
      refine OS.call noGo rfl (fun _ => rfl) ((put_ct (i := false) (it := false) (B := []) (w := kTemplate) (a := [y.name]) ⟨A, n, c, A', n', c', C', rfl, hC', hsl⟩ (by omega) (fun p hp => by cases hp) (.inr ⟨rl, 0, openCap, _, strs (kTemplate :: [y.name]), rfl, List.mem_cons_self .., rfl, cut_all (by simp [strs]), .inl ⟨rfl, rfl, allS_strs _⟩⟩) (by simp) (by simp only [List.mem_cons, List.not_mem_nil, or_false]; rintro x (rfl | rfl); exact hkl; exact hyT.1)).mono ?_)
      intro u L' hres
      refine ⟨_, rfl, ?_⟩
      cases he : lineR (m + 1) d1 s1 kTemplate [y.name] false false with
      | error e =>
        rw [he] at hres hE
        obtain ⟨rfl, hne, Z, rfl⟩ := hres
        have hbe : (!ieqB ((e : Nat) : Int) 0) = true := by rw [ieqB_eq]; simp; omega
        have hbe2 : ieqB ((e : Nat) : Int) 0 = false := by rw [ieqB_eq]; simp; omega
        refine OS.sub (Sub.sums (A := (r8, ARow.cells tZ [.int .i64 y.no, .int .u8 (y.kind.toNat : Nat), str y.name, .slice iA y.items.length ic]) :: (r1, ARow.cells tDd [.slice hA D.head.length hc, .slice sA D.secs.length sc]) :: (Z ++ F)) fun f => by simp <;> omega) ?_
        refine yG ?_
        refine LS.loopJ [1, 4, 7, 8, 10, 11] (fun q a L' => L' = (r8, ARow.cells tZ [.int .i64 y.no, .int .u8 (y.kind.toNat : Nat), str y.name, .slice iA y.items.length ic]) :: (r1, ARow.cells tDd [.slice hA D.head.length hc, .slice sA D.secs.length sc]) :: (Z ++ F) ∧ a = [.chan none, ptr r1, .chan none, .chan none, ptr r4, .chan none, .chan none, .int .i64 (j : Nat), ptr r8, .chan none, .int .i64 (e : Nat), .int .i64 0, .chan none, .chan none, .chan none, .chan none, .chan none, .chan none, .chan none, .chan none, .chan none, .chan none, .chan none, .chan none, .chan none, .chan none, .chan none, .chan none, .chan none, .chan none, .chan none, .chan none, .chan none, .chan none, .chan none, .chan none, .chan none, .chan none, .chan none, .chan none, .chan none, .chan none, .chan none, .chan none, .chan none, .chan none, .chan none, .chan none, .chan none, .chan none, .chan none, .chan none, .chan none, .chan none, .chan none, .chan none, .chan none, .chan none, .chan none, .chan none, .chan none, .chan none, .chan none, .chan none, .chan none, .chan none, .chan none, .chan none, .chan none, .chan none, .chan none, .chan none, .chan none, .chan none, .chan none, .chan none, .chan none, .chan none, .chan none, .chan none, .chan none, .chan none]) (n := 0) rfl ⟨rfl, rfl⟩ ?_
        rintro q a L' ⟨rfl, rfl⟩
        rcases tf (!ileB ((y.items.length : Nat) : Int) 0) with hb0 | hb0
        all_goals
          refine yG ?_
          refine LS.exit ?_
          refine yG ?_
          rw [hE]
          exact ⟨rfl, by repeat (first | exact Ends.nil | apply Ends.cons | apply Ends.app)⟩
      | ok p =>
        obtain ⟨d2, s2⟩ := p
        have hsz2 := lineR_sz he
        rw [he] at hres hE
        obtain ⟨rfl, Y2, A1, n1, c1, A2, n2, c2, K, rfl, hX2, hsl2⟩ := hres
        refine OS.sub (Sub.sums (A := (r8, ARow.cells tZ [.int .i64 y.no, .int .u8 (y.kind.toNat : Nat), str y.name, .slice iA y.items.length ic]) :: (r1, ARow.cells tDd [.slice hA D.head.length hc, .slice sA D.secs.length sc]) :: (r4, ARow.cells tLi [.slice A1 n1 c1, .slice A2 n2 c2, str s2, .int .i64 (m + 1 : Nat)]) :: (K ++ F)) fun f => by simp <;> omega) ?_
        refine yG ?_
        refine LS.loopJ [1, 4, 7, 8, 10, 11] (fun q a L' => (∃ (k : Nat) (d3 : Dc) (s3 : W) (Y3 : RL) (A3 : Option Addr) (n3 c3 : Nat) (A4 : Option Addr) (n4 c4 : Nat) (C3 : RL), q = y.items.length - k ∧ k ≤ y.items.length ∧
            R = (match putL chk joinW (m + 1 + k + 1) d3 s3 ((y.items.drop k).map fun x => x.ln true) with | .error e => .error e | .ok (d', s') => printS chk joinW (m + 1 + 1 + y.items.length) d' s' (D.secs.drop (j + 1))) ∧ szD d3 = m + 1 + k ∧ s3.length ≤ 410 * szD d3 ∧ RX2 (.agg #[.slice A3 n3 c3, .slice A4 n4 c4]) d3 Y3 [] C3 ∧
            L' = (r8, ARow.cells tZ [.int .i64 y.no, .int .u8 (y.kind.toNat : Nat), str y.name, .slice iA y.items.length ic]) :: (r1, ARow.cells tDd [.slice hA D.head.length hc, .slice sA D.secs.length sc]) :: (r4, ARow.cells tLi [.slice A3 n3 c3, .slice A4 n4 c4, str s3, .int .i64 (m + 1 + k : Nat)]) :: (C3 ++ F) ∧ a = [.chan none, ptr r1, .chan none, .chan none, ptr r4, .chan none, .chan none, .int .i64 (j : Nat), ptr r8, .chan none, .int .i64 0, .int .i64 (k : Nat), .chan none, .chan none, .chan none, .chan none, .chan none, .chan none, .chan none, .chan none, .chan none, .chan none, .chan none, .chan none, .chan none, .chan none, .chan none, .chan none, .chan none, .chan none, .chan none, .chan none, .chan none, .chan none, .chan none, .chan none, .chan none, .chan none, .chan none, .chan none, .chan none, .chan none, .chan none, .chan none, .chan none, .chan none, .chan none, .chan none, .chan none, .chan none, .chan none, .chan none, .chan none, .chan none, .chan none, .chan none, .chan none, .chan none, .chan none, .chan none, .chan none, .chan none, .chan none, .chan none, .chan none, .chan none, .chan none, .chan none, .chan none, .chan none, .chan none, .chan none, .chan none, .chan none, .chan none, .chan none, .chan none, .chan none, .chan none, .chan none, .chan none, .chan none]) ∨
            (∃ (k e : Nat) (Z : RL), q = 0 ∧ R = .error e ∧ e ≠ 0 ∧ L' = (r8, ARow.cells tZ [.int .i64 y.no, .int .u8 (y.kind.toNat : Nat), str y.name, .slice iA y.items.length ic]) :: (r1, ARow.cells tDd [.slice hA D.head.length hc, .slice sA D.secs.length sc]) :: (Z ++ F) ∧ a = [.chan none, ptr r1, .chan none, .chan none, ptr r4, .chan none, .chan none, .int .i64 (j : Nat), ptr r8, .chan none, .int .i64 (e : Nat), .int .i64 (k : Nat), .chan none, .chan none, .chan none, .chan none, .chan none, .chan none, .chan none, .chan none, .chan none, .chan none, .chan none, .chan none, .chan none, .chan none, .chan none, .chan none, .chan none, .chan none, .chan none, .chan none, .chan none, .chan none, .chan none, .chan none, .chan none, .chan none, .chan none, .chan none, .chan none, .chan none, .chan none, .chan none, .chan none, .chan none, .chan none, .chan none, .chan none, .chan none, .chan none, .chan none, .chan none, .chan none, .chan none, .chan none, .chan none, .chan none, .chan none, .chan none, .chan none, .chan none, .chan none, .chan none, .chan none, .chan none, .chan none, .chan none, .chan none, .chan none, .chan none, .chan none, .chan none, .chan none, .chan none, .chan none, .chan none, .chan none, .chan none, .chan none, .chan none, .chan none])) (n := y.items.length) rfl (.inl ⟨0, d2, s2, Y2, A1, n1, c1, A2, n2, c2, K, by omega, by omega, hE, by omega, hsl2, hX2, rfl, rfl⟩) ?_
        clear hX2 hsl2 hsz2 hE he
        clear s2 d2 Y2 K
        rintro q a L' (⟨k, d3, s3, Y3, A3, n3, c3, A4, n4, c4, C3, rfl, hk, hE, hsz3, hsl3, hX3, rfl, rfl⟩ | ⟨k, e, Z, rfl, hE, hne, rfl, rfl⟩)
        · have hsm3 := hX3.small
          by_cases hkn : k < y.items.length
          · have hbk : (!ileB ((y.items.length : Nat) : Int) (k : Nat)) = true := by rw [ileB_eq]; simp; omega
            have hxk : y.items[k]? = some y.items[k] := List.getElem?_eq_getElem hkn
            have hdk : y.items.drop k = y.items[k] :: y.items.drop (k + 1) := List.drop_eq_getElem_cons hkn
            have hxT := hyT.2.2 _ (List.getElem_mem hkn)
            generalize y.items[k] = x at hxk hdk hxT
            rw [hdk, List.map_cons, show x.ln true = (x.word :: x.args, true, true) from rfl, putL_R] at hE
            obtain ⟨av, hcutk, hav⟩ := hiI.at hxk
            have hiL := hiv.up (G := (r8, ARow.cells tZ [.int .i64 y.no, .int .u8 (y.kind.toNat : Nat), str y.name, .slice iA y.items.length ic]) :: (r1, ARow.cells tDd [.slice hA D.head.length hc, .slice sA D.secs.length sc]) :: (r4, ARow.cells tLi [.slice A3 n3 c3, .slice A4 n4 c4, str s3, .int .i64 (m + 1 + k : Nat)]) :: (C3 ++ F)) fun p hp => by simp [hM p hp]
            have havL := hav.up (G := (r8, ARow.cells tZ [.int .i64 y.no, .int .u8 (y.kind.toNat : Nat), str y.name, .slice iA y.items.length ic]) :: (r1, ARow.cells tDd [.slice hA D.head.length hc, .slice sA D.secs.length sc]) :: (r4, ARow.cells tLi [.slice A3 n3 c3, .slice A4 n4 c4, str s3, .int .i64 (m + 1 + k : Nat)]) :: (C3 ++ F)) fun p hp => by simp [hM p hp]
            refine yG ?_
            refine OS.at (j := k) hiL hkn rfl rfl rfl rfl rfl rfl (fun r0 o0 row0 cs0 m0 c0 g0 k0 => ?_)
            refine ⟨_, rfl, ?_⟩
            refine OS.read rfl (e_loadm m0 c0 rfl rfl (part_agg rfl rfl (k0 _ hcutk))) rfl ?_
            refine OS.call noGo rfl (fun _ => rfl) ((words_ct havL (by have := hxT.1; omega)).mono ?_)
            rintro u L' ⟨rI, rfl, rfl⟩
            refine ⟨_, rfl, ?_⟩
            obtain ⟨C', hC', hs'⟩ := hX3.row (rI, .cells 9 (strs (x.word :: x.args)))
            refine OS.sub (Sub.trans (Sub.sums (A := (r4, ARow.cells tLi [.slice A3 n3 c3, .slice A4 n4 c4, str s3, .int .i64 (m + 1 + k : Nat)]) :: (C' ++ ((r8, ARow.cells tZ [.int .i64 y.no, .int .u8 (y.kind.toNat : Nat), str y.name, .slice iA y.items.length ic]) :: (r1, ARow.cells tDd [.slice hA D.head.length hc, .slice sA D.secs.length sc]) :: F))) (B := C' ++ ((r4, ARow.cells tLi [.slice A3 n3 c3, .slice A4 n4 c4, str s3, .int .i64 (m + 1 + k : Nat)]) :: (r8, ARow.cells tZ [.int .i64 y.no, .int .u8 (y.kind.toNat : Nat), str y.name, .slice iA y.items.length ic]) :: (r1, ARow.cells tDd [.slice hA D.head.length hc, .slice sA D.secs.length sc]) :: F)) fun f => by simp <;> omega) (Sub.trans (hs' _) (Sub.sums fun f => by simp <;> omega))) ?_
            refine OS.call noGo rfl (fun _ => rfl) ((put_ct (i := true) (it := true) (B := []) ⟨A3, n3, c3, A4, n4, c4, C', rfl, hC', hsl3⟩ (by omega) (fun p hp => by cases hp) (.inr ⟨rI, 0, openCap, _, strs (x.word :: x.args), rfl, List.mem_cons_self .., rfl, cut_all (by simp [strs]), .inl ⟨rfl, rfl, allS_strs _⟩⟩) (by simp only [List.length_cons]; have := hxT.1; omega) hxT.2).mono ?_)
            intro u L' hres
            refine ⟨_, rfl, ?_⟩
            cases he : lineR (m + 1 + k + 1) d3 s3 x.word x.args true true with
            | error e =>
              rw [he] at hres hE
              obtain ⟨rfl, hne, Z, rfl⟩ := hres
              refine OS.sub (Sub.sums (A := (r8, ARow.cells tZ [.int .i64 y.no, .int .u8 (y.kind.toNat : Nat), str y.name, .slice iA y.items.length ic]) :: (r1, ARow.cells tDd [.slice hA D.head.length hc, .slice sA D.secs.length sc]) :: (Z ++ F)) fun f => by simp <;> omega) ?_
              refine yG ?_
              exact ⟨0, by omega, .inr ⟨k + 1, e, Z, rfl, hE, hne, rfl, rfl⟩⟩
            | ok p =>
              obtain ⟨d4, s4⟩ := p
              have hsz4 := lineR_sz he
              rw [he] at hres hE
              obtain ⟨rfl, Y4, A5, n5, c5, A6, n6, c6, K4, rfl, hX4, hsl4⟩ := hres
              refine OS.sub (Sub.sums (A := (r8, ARow.cells tZ [.int .i64 y.no, .int .u8 (y.kind.toNat : Nat), str y.name, .slice iA y.items.length ic]) :: (r1, ARow.cells tDd [.slice hA D.head.length hc, .slice sA D.secs.length sc]) :: (r4, ARow.cells tLi [.slice A5 n5 c5, .slice A6 n6 c6, str s4, .int .i64 (m + 1 + k + 1 : Nat)]) :: (K4 ++ F)) fun f => by simp <;> omega) ?_
              refine yG ?_
              exact ⟨y.items.length - (k + 1), by omega, .inl ⟨k + 1, d4, s4, Y4, A5, n5, c5, A6, n6, c6, K4, rfl, by omega, hE, by omega, hsl4, hX4, rfl, rfl⟩⟩
          · have hbk : (!ileB ((y.items.length : Nat) : Int) (k : Nat)) = false := by rw [ileB_eq]; simp; omega
            obtain rfl : k = y.items.length := by omega
            rw [List.drop_eq_nil_of_le (by omega), List.map_nil, putL] at hE
            refine yG ?_
            refine LS.exit ?_
            refine LS.sub (Sub.drops 1 rfl) ?_
            refine yG ?_
            exact ⟨D.secs.length - (j + 1), by omega, j + 1, m + 1 + y.items.length, d3, s3, Y3, A3, n3, c3, A4, n4, c4, C3, rfl, by omega, by rw [hE, show m + 1 + 1 + y.items.length = m + 1 + y.items.length + 1 by omega], by omega, hsl3, hX3, rfl, rfl⟩
        · have hbe : (!ieqB ((e : Nat) : Int) 0) = true := by rw [ieqB_eq]; simp; omega
          have hbe2 : ieqB ((e : Nat) : Int) 0 = false := by rw [ieqB_eq]; simp; omega
          rcases tf (!ileB ((y.items.length : Nat) : Int) (k : Nat)) with hb0 | hb0
          all_goals
            refine yG ?_
            refine LS.exit ?_
            refine yG ?_
            rw [hE]
            exact ⟨rfl, by repeat (first | exact Ends.nil | apply Ends.cons | apply Ends.app)⟩
    · have e1 : ieqB ((y.kind.toNat : Nat) : Int) 1 = false := by rw [k1]; simpa using hk1
      by_cases hk2 : y.kind = 2
      · have e2 : ieqB ((y.kind.toNat : Nat) : Int) 2 = true := by rw [k2]; simpa using hk2
        rw [if_neg (by simp [hk2]), show y.lns = ([kJob, y.name], false, false) :: y.items.map (fun x => x.ln true) by unfold Se.lns; rw [if_pos hk2], putL_R] at hE
        have hkl : kJob.length ≤ 100000000 := by decide
        refine yG ?_
        refine OS.fresh rfl (e_new (fun _ => rfl) rfl) (fun _ => rfl) (fun rl => ?_)
        refine OS.opened 54 0 (sz := 1) rfl rfl rfl (by simp) (by decide) rfl ?_
        obtain ⟨C', hC', hs'⟩ := hX.row (rl, ARow.cells 9 (strs (kJob :: [y.name])))
        refine OS.sub (Sub.trans (Sub.sums (A := (r4, ARow.cells tLi [.slice A n c, .slice A' n' c', str s1, .int .i64 (m : Nat)]) :: (C' ++ ((r8, ARow.cells tZ [.int .i64 y.no, .int .u8 (y.kind.toNat : Nat), str y.name, .slice iA y.items.length ic]) :: (r1, ARow.cells tDd [.slice hA D.head.length hc, .slice sA D.secs.length sc]) :: F))) (B := C' ++ ((r4, ARow.cells tLi [.slice A n c, .slice A' n' c', str s1, .int .i64 (m : Nat)]) :: (r8, ARow.cells tZ [.int .i64 y.no, .int .u8 (y.kind.toNat : Nat), str y.name, .slice iA y.items.length ic]) :: (r1, ARow.cells tDd [.slice hA D.head.length hc, .slice sA D.secs.length sc]) :: F)) fun f => by simp <;> omega) (Sub.trans (hs' _) (Sub.sums fun f => by simp [strs, kTemplate, kJob] <;> omega))) ?_
        refine OS.call noGo rfl (fun _ => rfl) ((put_ct (i := false) (it := false) (B := []) (w := kJob) (a := [y.name]) ⟨A, n, c, A', n', c', C', rfl, hC', hsl⟩ (by omega) (fun p hp => by cases hp) (.inr ⟨rl, 0, openCap, _, strs (kJob :: [y.name]), rfl, List.mem_cons_self .., rfl, cut_all (by simp [strs]), .inl ⟨rfl, rfl, allS_strs _⟩⟩) (by simp) (by simp only [List.mem_cons, List.not_mem_nil, or_false]; rintro x (rfl | rfl); exact hkl; exact hyT.1)).mono ?_)
        intro u L' hres
        refine ⟨_, rfl, ?_⟩
        cases he : lineR (m + 1) d1 s1 kJob [y.name] false false with
        | error e =>
          rw [he] at hres hE
          obtain ⟨rfl, hne, Z, rfl⟩ := hres
          have hbe : (!ieqB ((e : Nat) : Int) 0) = true := by rw [ieqB_eq]; simp; omega
          have hbe2 : ieqB ((e : Nat) : Int) 0 = false := by rw [ieqB_eq]; simp; omega
          refine OS.sub (Sub.sums (A := (r8, ARow.cells tZ [.int .i64 y.no, .int .u8 (y.kind.toNat : Nat), str y.name, .slice iA y.items.length ic]) :: (r1, ARow.cells tDd [.slice hA D.head.length hc, .slice sA D.secs.length sc]) :: (Z ++ F)) fun f => by simp <;> omega) ?_
          refine yG ?_
          refine LS.loopJ [1, 4, 7, 8, 10, 11] (fun q a L' => L' = (r8, ARow.cells tZ [.int .i64 y.no, .int .u8 (y.kind.toNat : Nat), str y.name, .slice iA y.items.length ic]) :: (r1, ARow.cells tDd [.slice hA D.head.length hc, .slice sA D.secs.length sc]) :: (Z ++ F) ∧ a = [.chan none, ptr r1, .chan none, .chan none, ptr r4, .chan none, .chan none, .int .i64 (j : Nat), ptr r8, .chan none, .int .i64 (e : Nat), .int .i64 0, .chan none, .chan none, .chan none, .chan none, .chan none, .chan none, .chan none, .chan none, .chan none, .chan none, .chan none, .chan none, .chan none, .chan none, .chan none, .chan none, .chan none, .chan none, .chan none, .chan none, .chan none, .chan none, .chan none, .chan none, .chan none, .chan none, .chan none, .chan none, .chan none, .chan none, .chan none, .chan none, .chan none, .chan none, .chan none, .chan none, .chan none, .chan none, .chan none, .chan none, .chan none, .chan none, .chan none, .chan none, .chan none, .chan none, .chan none, .chan none, .chan none, .chan none, .chan none, .chan none, .chan none, .chan none, .chan none, .chan none, .chan none, .chan none, .chan none, .chan none, .chan none, .chan none, .chan none, .chan none, .chan none, .chan none, .chan none, .chan none, .chan none, .chan none]) (n := 0) rfl ⟨rfl, rfl⟩ ?_
          rintro q a L' ⟨rfl, rfl⟩
          rcases tf (!ileB ((y.items.length : Nat) : Int) 0) with hb0 | hb0
          all_goals
            refine yG ?_
            refine LS.exit ?_
            refine yG ?_
            rw [hE]
            exact ⟨rfl, by repeat (first | exact Ends.nil | apply Ends.cons | apply Ends.app)⟩
        | ok p =>
          obtain ⟨d2, s2⟩ := p
          have hsz2 := lineR_sz he
          rw [he] at hres hE
          obtain ⟨rfl, Y2, A1, n1, c1, A2, n2, c2, K, rfl, hX2, hsl2⟩ := hres
          refine OS.sub (Sub.sums (A := (r8, ARow.cells tZ [.int .i64 y.no, .int .u8 (y.kind.toNat : Nat), str y.name, .slice iA y.items.length ic]) :: (r1, ARow.cells tDd [.slice hA D.head.length hc, .slice sA D.secs.length sc]) :: (r4, ARow.cells tLi [.slice A1 n1 c1, .slice A2 n2 c2, str s2, .int .i64 (m + 1 : Nat)]) :: (K ++ F)) fun f => by simp <;> omega) ?_
          refine yG ?_
          refine LS.loopJ [1, 4, 7, 8, 10, 11] (fun q a L' => (∃ (k : Nat) (d3 : Dc) (s3 : W) (Y3 : RL) (A3 : Option Addr) (n3 c3 : Nat) (A4 : Option Addr) (n4 c4 : Nat) (C3 : RL), q = y.items.length - k ∧ k ≤ y.items.length ∧
              R = (match putL chk joinW (m + 1 + k + 1) d3 s3 ((y.items.drop k).map fun x => x.ln true) with | .error e => .error e | .ok (d', s') => printS chk joinW (m + 1 + 1 + y.items.length) d' s' (D.secs.drop (j + 1))) ∧ szD d3 = m + 1 + k ∧ s3.length ≤ 410 * szD d3 ∧ RX2 (.agg #[.slice A3 n3 c3, .slice A4 n4 c4]) d3 Y3 [] C3 ∧
              L' = (r8, ARow.cells tZ [.int .i64 y.no, .int .u8 (y.kind.toNat : Nat), str y.name, .slice iA y.items.length ic]) :: (r1, ARow.cells tDd [.slice hA D.head.length hc, .slice sA D.secs.length sc]) :: (r4, ARow.cells tLi [.slice A3 n3 c3, .slice A4 n4 c4, str s3, .int .i64 (m + 1 + k : Nat)]) :: (C3 ++ F) ∧ a = [.chan none, ptr r1, .chan none, .chan none, ptr r4, .chan none, .chan none, .int .i64 (j : Nat), ptr r8, .chan none, .int .i64 0, .int .i64 (k : Nat), .chan none, .chan none, .chan none, .chan none, .chan none, .chan none, .chan none, .chan none, .chan none, .chan none, .chan none, .chan none, .chan none, .chan none, .chan none, .chan none, .chan none, .chan none, .chan none, .chan none, .chan none, .chan none, .chan none, .chan none, .chan none, .chan none, .chan none, .chan none, .chan none, .chan none, .chan none, .chan none, .chan none, .chan none, .chan none, .chan none, .chan none, .chan none, .chan none, .chan none, .chan none, .chan none, .chan none, .chan none, .chan none, .chan none, .chan none, .chan none, .chan none, .chan none, .chan none, .chan none, .chan none, .chan none, .chan none, .chan none, .chan none, .chan none, .chan none, .chan none, .chan none, .chan none, .chan none, .chan none, .chan none, .chan none, .chan none, .chan none, .chan none, .chan none]) ∨
              (∃ (k e : Nat) (Z : RL), q = 0 ∧ R = .error e ∧ e ≠ 0 ∧ L' = (r8, ARow.cells tZ [.int .i64 y.no, .int .u8 (y.kind.toNat : Nat), str y.name, .slice iA y.items.length ic]) :: (r1, ARow.cells tDd [.slice hA D.head.length hc, .slice sA D.secs.length sc]) :: (Z ++ F) ∧ a = [.chan none, ptr r1, .chan none, .chan none, ptr r4, .chan none, .chan none, .int .i64 (j : Nat), ptr r8, .chan none, .int .i64 (e : Nat), .int .i64 (k : Nat), .chan none, .chan none, .chan none, .chan none, .chan none, .chan none, .chan none, .chan none, .chan none, .chan none, .chan none, .chan none, .chan none, .chan none, .chan none, .chan none, .chan none, .chan none, .chan none, .chan none, .chan none, .chan none, .chan none, .chan none, .chan none, .chan none, .chan none, .chan none, .chan none, .chan none, .chan none, .chan none, .chan none, .chan none, .chan none, .chan none, .chan none, .chan none, .chan none, .chan none, .chan none, .chan none, .chan none, .chan none, .chan none, .chan none, .chan none, .chan none, .chan none, .chan none, .chan none, .chan none, .chan none, .chan none, .chan none, .chan none, .chan none, .chan none, .chan none, .chan none, .chan none, .chan none, .chan none, .chan none, .chan none, .chan none, .chan none, .chan none, .chan none, .chan none])) (n := y.items.length) rfl (.inl ⟨0, d2, s2, Y2, A1, n1, c1, A2, n2, c2, K, by omega, by omega, hE, by omega, hsl2, hX2, rfl, rfl⟩) ?_
          clear hX2 hsl2 hsz2 hE he
          clear s2 d2 Y2 K
          rintro q a L' (⟨k, d3, s3, Y3, A3, n3, c3, A4, n4, c4, C3, rfl, hk, hE, hsz3, hsl3, hX3, rfl, rfl⟩ | ⟨k, e, Z, rfl, hE, hne, rfl, rfl⟩)
          · have hsm3 := hX3.small
            by_cases hkn : k < y.items.length
            · have hbk : (!ileB ((y.items.length : Nat) : Int) (k : Nat)) = true := by rw [ileB_eq]; simp; omega
              have hxk : y.items[k]? = some y.items[k] := List.getElem?_eq_getElem hkn
              have hdk : y.items.drop k = y.items[k] :: y.items.drop (k + 1) := List.drop_eq_getElem_cons hkn
              have hxT := hyT.2.2 _ (List.getElem_mem hkn)
              generalize y.items[k] = x at hxk hdk hxT
              rw [hdk, List.map_cons, show x.ln true = (x.word :: x.args, true, true) from rfl, putL_R] at hE
              obtain ⟨av, hcutk, hav⟩ := hiI.at hxk
              have hiL := hiv.up (G := (r8, ARow.cells tZ [.int .i64 y.no, .int .u8 (y.kind.toNat : Nat), str y.name, .slice iA y.items.length ic]) :: (r1, ARow.cells tDd [.slice hA D.head.length hc, .slice sA D.secs.length sc]) :: (r4, ARow.cells tLi [.slice A3 n3 c3, .slice A4 n4 c4, str s3, .int .i64 (m + 1 + k : Nat)]) :: (C3 ++ F)) fun p hp => by simp [hM p hp]
              have havL := hav.up (G := (r8, ARow.cells tZ [.int .i64 y.no, .int .u8 (y.kind.toNat : Nat), str y.name, .slice iA y.items.length ic]) :: (r1, ARow.cells tDd [.slice hA D.head.length hc, .slice sA D.secs.length sc]) :: (r4, ARow.cells tLi [.slice A3 n3 c3, .slice A4 n4 c4, str s3, .int .i64 (m + 1 + k : Nat)]) :: (C3 ++ F)) fun p hp => by simp [hM p hp]
              refine yG ?_
              refine OS.at (j := k) hiL hkn rfl rfl rfl rfl rfl rfl (fun r0 o0 row0 cs0 m0 c0 g0 k0 => ?_)
              refine ⟨_, rfl, ?_⟩
              refine OS.read rfl (e_loadm m0 c0 rfl rfl (part_agg rfl rfl (k0 _ hcutk))) rfl ?_
              refine OS.call noGo rfl (fun _ => rfl) ((words_ct havL (by have := hxT.1; omega)).mono ?_)
              rintro u L' ⟨rI, rfl, rfl⟩
              refine ⟨_, rfl, ?_⟩
              obtain ⟨C', hC', hs'⟩ := hX3.row (rI, .cells 9 (strs (x.word :: x.args)))
              refine OS.sub (Sub.trans (Sub.sums (A := (r4, ARow.cells tLi [.slice A3 n3 c3, .slice A4 n4 c4, str s3, .int .i64 (m + 1 + k : Nat)]) :: (C' ++ ((r8, ARow.cells tZ [.int .i64 y.no, .int .u8 (y.kind.toNat : Nat), str y.name, .slice iA y.items.length ic]) :: (r1, ARow.cells tDd [.slice hA D.head.length hc, .slice sA D.secs.length sc]) :: F))) (B := C' ++ ((r4, ARow.cells tLi [.slice A3 n3 c3, .slice A4 n4 c4, str s3, .int .i64 (m + 1 + k : Nat)]) :: (r8, ARow.cells tZ [.int .i64 y.no, .int .u8 (y.kind.toNat : Nat), str y.name, .slice iA y.items.length ic]) :: (r1, ARow.cells tDd [.slice hA D.head.length hc, .slice sA D.secs.length sc]) :: F)) fun f => by simp <;> omega) (Sub.trans (hs' _) (Sub.sums fun f => by simp <;> omega))) ?_
              refine OS.call noGo rfl (fun _ => rfl) ((put_ct (i := true) (it := true) (B := []) ⟨A3, n3, c3, A4, n4, c4, C', rfl, hC', hsl3⟩ (by omega) (fun p hp => by cases hp) (.inr ⟨rI, 0, openCap, _, strs (x.word :: x.args), rfl, List.mem_cons_self .., rfl, cut_all (by simp [strs]), .inl ⟨rfl, rfl, allS_strs _⟩⟩) (by simp only [List.length_cons]; have := hxT.1; omega) hxT.2).mono ?_)
              intro u L' hres
              refine ⟨_, rfl, ?_⟩
              cases he : lineR (m + 1 + k + 1) d3 s3 x.word x.args true true with
              | error e =>
                rw [he] at hres hE
                obtain ⟨rfl, hne, Z, rfl⟩ := hres
                refine OS.sub (Sub.sums (A := (r8, ARow.cells tZ [.int .i64 y.no, .int .u8 (y.kind.toNat : Nat), str y.name, .slice iA y.items.length ic]) :: (r1, ARow.cells tDd [.slice hA D.head.length hc, .slice sA D.secs.length sc]) :: (Z ++ F)) fun f => by simp <;> omega) ?_
                refine yG ?_
                exact ⟨0, by omega, .inr ⟨k + 1, e, Z, rfl, hE, hne, rfl, rfl⟩⟩
              | ok p =>
                obtain ⟨d4, s4⟩ := p
                have hsz4 := lineR_sz he
                rw [he] at hres hE
                obtain ⟨rfl, Y4, A5, n5, c5, A6, n6, c6, K4, rfl, hX4, hsl4⟩ := hres
                refine OS.sub (Sub.sums (A := (r8, ARow.cells tZ [.int .i64 y.no, .int .u8 (y.kind.toNat : Nat), str y.name, .slice iA y.items.length ic]) :: (r1, ARow.cells tDd [.slice hA D.head.length hc, .slice sA D.secs.length sc]) :: (r4, ARow.cells tLi [.slice A5 n5 c5, .slice A6 n6 c6, str s4, .int .i64 (m + 1 + k + 1 : Nat)]) :: (K4 ++ F)) fun f => by simp <;> omega) ?_
                refine yG ?_
                exact ⟨y.items.length - (k + 1), by omega, .inl ⟨k + 1, d4, s4, Y4, A5, n5, c5, A6, n6, c6, K4, rfl, by omega, hE, by omega, hsl4, hX4, rfl, rfl⟩⟩
            · have hbk : (!ileB ((y.items.length : Nat) : Int) (k : Nat)) = false := by rw [ileB_eq]; simp; omega
              obtain rfl : k = y.items.length := by omega
              rw [List.drop_eq_nil_of_le (by omega), List.map_nil, putL] at hE
              refine yG ?_
              refine LS.exit ?_
              refine LS.sub (Sub.drops 1 rfl) ?_
              refine yG ?_
              exact ⟨D.secs.length - (j + 1), by omega, j + 1, m + 1 + y.items.length, d3, s3, Y3, A3, n3, c3, A4, n4, c4, C3, rfl, by omega, by rw [hE, show m + 1 + 1 + y.items.length = m + 1 + y.items.length + 1 by omega], by omega, hsl3, hX3, rfl, rfl⟩
          · have hbe : (!ieqB ((e : Nat) : Int) 0) = true := by rw [ieqB_eq]; simp; omega
            have hbe2 : ieqB ((e : Nat) : Int) 0 = false := by rw [ieqB_eq]; simp; omega
            rcases tf (!ileB ((y.items.length : Nat) : Int) (k : Nat)) with hb0 | hb0
            all_goals
              refine yG ?_
              refine LS.exit ?_
              refine yG ?_
              rw [hE]
              exact ⟨rfl, by repeat (first | exact Ends.nil | apply Ends.cons | apply Ends.app)⟩
      · have e2 : ieqB ((y.kind.toNat : Nat) : Int) 2 = false := by rw [k2]; simpa using hk2
        rw [if_pos ⟨hk1, hk2⟩] at hE
        refine yG ?_
        rw [hE]
        exact ⟨rfl, by repeat (first | exact Ends.nil | apply Ends.cons | apply Ends.app)⟩
  have hb : (!ileB ((D.secs.length : Nat) : Int) (j : Nat)) = false := by rw [ileB_eq]; simp; omega
  obtain rfl : j = D.secs.length := by omega
  rw [List.drop_eq_nil_of_le (by omega), printS] at hE
  refine yG ?_
  refine LS.exit ?_
  refine yG ?_
  rw [hE]
  exact ⟨rfl, by repeat (first | exact Ends.nil | apply Ends.cons | apply Ends.app)⟩
end
end Go.Proofs.YtllcbjaajffaeaaGreatDoor
