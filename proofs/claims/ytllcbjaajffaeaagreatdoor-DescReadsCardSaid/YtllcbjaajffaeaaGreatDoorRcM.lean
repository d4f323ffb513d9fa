import Derived.Test.YtllcbjaajffaeaaGreatDoorRb
import Derived.Test.YtllcbjaajffaeaaGreatDoorRs
import Derived.Test.YtllcbjaajffaeaaGreatDoorHn
import Derived.Test.YtllcbjaajffaeaaGreatDoorGbw
import Derived.Sort.Grow
import Derived.Test.YtllcbjaajffaeaaGreatDoorAmK
namespace Go.Proofs.YtllcbjaajffaeaaGreatDoor
open Go.Am
set_option linter.unusedVariables false
set_option maxRecDepth 20000
set_option maxHeartbeats 4000000
attribute [local irreducible] OS LSr ODS CS
theorem below_grow (w : World) (k : Nat) (os : Array Obj) : Go.RowKit.Below w.heap.size w (Go.Sort.grow (w.drewN k) os) :=
  ⟨rfl, rfl, rfl, by show w.heap.size ≤ (w.heap ++ os).size; simp, fun j hj => by
    show (w.heap ++ os)[j]? = _
    rw [Array.getElem?_append_left hj]⟩
section
variable {g : Gn} {L : RL}
theorem Atoi_ok {s : List UInt8} {n : Int} (hs : s.length ≤ 1000000000) (h : Lib.atoiAll s = .ok n) : CS Tryz.prog 159 [str s] L fun v L' => v = .tuple #[.int .i64 n, .nilIface] ∧ L' = L :=
  CS.of_calls ⟨_, _, rfl, rfl⟩ rfl fun h0 H ρ w HR => (Tryz.strconv_Atoi_ok ⟨⟨s⟩⟩ (by show s.length ≤ _; omega) n h w).mono fun e w' ⟨he, hw⟩ => ⟨_, he, .tuple (.cons (.int _ _) (.cons .nilIface .nil)), by
    rcases hw with rfl | ⟨t, rfl⟩
    · exact .refl _ _
    · exact Lib.bytesWorld_below _ _ _⟩
theorem Atoi_no {s : List UInt8} (hG : GL g L) (hs : s.length ≤ 1000000000) (h : ∀ n, Lib.atoiAll s ≠ .ok n) : CS Tryz.prog 159 [str s] L fun v L' => ∃ m, v = .tuple #[.int .i64 m, .iface 340 (.chan none)] ∧ L' = L := by
  cases hh : Lib.atoiAll s
  · rename_i n; exact absurd hh (h n)
  · refine (CS.of_calls (v := .tuple #[.int .i64 0, .iface 340 (.chan none)]) ⟨_, _, rfl, rfl⟩ rfl fun h0 H ρ w HR => ?_).mono fun v L' ⟨a, b⟩ => ⟨0, a, b⟩
    refine (Tryz.strconv_Atoi_syntax ⟨⟨s⟩⟩ (by show s.length ≤ _; omega) hh g.es w (glob_cell hG.s H HR rfl) (.inr hG.hs)).mono fun e w' ⟨N, he, _, _, hB⟩ => ⟨_, he, .tuple (.cons (.int _ _) (.cons (.iface (.any _)) .nil)), hB⟩
  · refine (CS.of_calls (v := .tuple #[.int .i64 (Lib.atoiSat s), .iface 340 (.chan none)]) ⟨_, _, rfl, rfl⟩ rfl fun h0 H ρ w HR => ?_).mono fun v L' ⟨a, b⟩ => ⟨_, a, b⟩
    refine (Tryz.strconv_Atoi_range ⟨⟨s⟩⟩ (by show s.length ≤ _; omega) hh g.er w (glob_cell hG.r H HR rfl) (.inr hG.hr)).mono fun e w' ⟨N, he, _, _, hB⟩ => ⟨_, he, .tuple (.cons (.int _ _) (.cons (.iface (.any _)) .nil)), hB⟩
theorem Itoa_ct (hG : GL g L) {n : Int} (h0 : -9223372036854775808 ≤ n) (h1 : n ≤ 9223372036854775807) : CS Tryz.prog 160 [.int .i64 n] L fun v L' => v = str (Lib.itoa n) ∧ L' = L :=
  CS.of_calls ⟨_, _, rfl, rfl⟩ rfl fun h H ρ w HR => by
    obtain ⟨e, f, hh⟩ := glob_heap hG.p H HR (by unfold pow10V Go.Lib.pow10Tab; simp)
    have htab : Lib.TabIs Tryz.prog w "internal/strconv.uint64pow10" .u64 Lib.pow10Tab := by
      have hg : Tryz.prog.globalNamed "internal/strconv.uint64pow10" = some 6 := by kernel_rfl
      unfold Lib.TabIs World.var?
      rw [hg]
      simp only [Option.bind_some, hh]
      rfl
    exact (Tryz.strconv_Itoa n h0 h1 w htab).mono fun e w' ⟨he, k, os, hw⟩ => ⟨_, he, .string _, by rw [hw]; exact below_grow w k os⟩
def numOk (m : Nat) (s : List UInt8) : Bool := decide (1 ≤ Go.Pd.numN s ∧ Go.Pd.numN s ≤ m)
theorem number_ct {s : List UInt8} {rm m : Nat} (hG : GL g L) (hm : (rm, ARow.cells 3 [.int .i64 (m : Nat)]) ∈ L) (hs : s.length ≤ 1000000000) (h1 : m ≤ 1000) : CS Tryz.prog 158 [str s, ptr rm] L fun v L' => v = .bool (numOk m s) ∧ L' = L := by
  have key := Go.Pd.num_asks (s := s) h1
  have hno : ¬ (∃ v, Lib.atoiAll s = .ok v ∧ 1 ≤ v ∧ v ≤ (m : Int) ∧ Lib.itoa v = s) → numOk m s = false := fun h => decide_eq_false fun h' => h (key.2 h')
  by_cases hok : ∃ n, Lib.atoiAll s = .ok n
  · obtain ⟨n, hn⟩ := hok
    have hb := Lib.atoiAll_bounds hn
    have hno' : ∀ {P : Prop}, (P → False) → (1 ≤ n ∧ n ≤ (m : Int) ∧ Lib.itoa n = s → P) → numOk m s = false := fun h1 h2 => hno fun ⟨v, hv, a, b, c⟩ => by
      rw [hn] at hv; injection hv with hv; subst hv; exact h1 (h2 ⟨a, b, c⟩)
    refine CS.mk (fn := Tryz.f158) rfl rfl rfl rfl ?_
    refine yG ?_
    refine OS.call noGo rfl (fun _ => rfl) ((Atoi_ok hs hn).mono ?_)
    rintro v L' ⟨rfl, rfl⟩
    refine ⟨_, rfl, ?_⟩
    by_cases c1 : 1 ≤ n
    · have b1 : ileB 1 n = true := by rw [ileB_eq]; exact decide_eq_true c1
      by_cases c2 : n ≤ (m : Int)
      · have b2 : ileB n (m : Nat) = true := by rw [ileB_eq]; exact decide_eq_true c2
        refine yG ?_
        refine OS.read rfl (e_loadm hm rfl rfl rfl (part_one rfl rfl)) rfl ?_
        refine yG ?_
        refine OS.call noGo rfl (fun _ => rfl) ((Itoa_ct hG hb.1 hb.2).mono ?_)
        rintro v L' ⟨rfl, rfl⟩
        refine ⟨_, rfl, ?_⟩
        by_cases c3 : Lib.itoa n = s
        · have b3 : bytesEq (Lib.itoa n) s = true := by rw [beq_bytes]; exact decide_eq_true c3
          refine yG ?_
          exact ⟨congrArg Value.bool (decide_eq_true (key.1 ⟨n, hn, c1, c2, c3⟩)).symm, rfl⟩
        · have b3 : bytesEq (Lib.itoa n) s = false := by rw [beq_bytes]; exact decide_eq_false c3
          refine yG ?_
          exact ⟨congrArg Value.bool (hno' c3 fun h => h.2.2).symm, rfl⟩
      · have b2 : ileB n (m : Nat) = false := by rw [ileB_eq]; exact decide_eq_false c2
        refine yG ?_
        refine OS.read rfl (e_loadm hm rfl rfl rfl (part_one rfl rfl)) rfl ?_
        refine yG ?_
        exact ⟨congrArg Value.bool (hno' c2 fun h => h.2.1).symm, rfl⟩
    · have b1 : ileB 1 n = false := by rw [ileB_eq]; exact decide_eq_false c1
      refine yG ?_
      exact ⟨congrArg Value.bool (hno' c1 fun h => h.1).symm, rfl⟩
  · refine CS.mk (fn := Tryz.f158) rfl rfl rfl rfl ?_
    refine yG ?_
    refine OS.call noGo rfl (fun _ => rfl) ((Atoi_no hG hs fun n hn => hok ⟨n, hn⟩).mono ?_)
    rintro v L' ⟨k, rfl, rfl⟩
    refine ⟨_, rfl, ?_⟩
    refine yG ?_
    exact ⟨congrArg Value.bool (hno fun ⟨v, hv, _⟩ => hok ⟨v, hv⟩).symm, rfl⟩
end
end Go.Proofs.YtllcbjaajffaeaaGreatDoor
namespace Go.Am
theorem Sub.rot {X G : RL} : Sub (G ++ X) (X ++ G) := ⟨[], by simpa using List.perm_append_comm⟩
end Go.Am
namespace Go.Pd
def cuts (c : UInt8) : B → List B
  | [] => [[]]
  | b :: t => if b = c then [] :: cuts c t else match cuts c t with
    | h :: r => (b :: h) :: r
    | [] => [[b]]
theorem cuts_ne (c : UInt8) : ∀ s : B, cuts c s ≠ []
  | [] => by simp [cuts]
  | b :: t => by
    unfold cuts
    split
    · simp
    · split <;> simp
theorem cuts_none {c : UInt8} : ∀ {s : B}, c ∉ s → cuts c s = [s]
  | [], _ => rfl
  | b :: t, h => by
    have h1 : b ≠ c := fun e => h (by simp [e])
    have h2 : c ∉ t := fun e => h (by simp [e])
    simp [cuts, h1, cuts_none h2]
theorem cuts_at {c : UInt8} {t : B} : ∀ {a : B}, c ∉ a → cuts c (a ++ c :: t) = a :: cuts c t
  | [], _ => by simp [cuts]
  | b :: a, h => by
    have h1 : b ≠ c := fun e => h (by simp [e])
    have h2 : c ∉ a := fun e => h (by simp [e])
    simp [cuts, h1, cuts_at h2]
theorem segs_cuts : ∀ s : B, segs s = cuts 10 s
  | [] => rfl
  | b :: t => by
    simp only [segs, cuts, segs_cuts t]
    by_cases h : b = 10
    · rw [if_pos h, if_pos h]
    · rw [if_neg h, if_neg h]; cases cuts 10 t <;> rfl
theorem parts_cuts : ∀ s : B, parts s = cuts 47 s
  | [] => rfl
  | b :: t => by
    simp only [parts, cuts, parts_cuts t]
    by_cases h : b = 47
    · rw [if_pos h, if_pos h]
    · rw [if_neg h, if_neg h]; cases cuts 47 t <;> rfl
theorem idx_cases (c : UInt8) : ∀ s : B, (Lib.indexByte s c = -1 ∧ c ∉ s) ∨ ∃ a t, s = a ++ c :: t ∧ c ∉ a ∧ Lib.indexByte s c = (a.length : Nat)
  | [] => .inl ⟨rfl, by simp⟩
  | b :: s => by
    by_cases h : b = c
    · subst h
      exact .inr ⟨[], s, rfl, by simp, by simp [Lib.indexByte]⟩
    · have hb : (b == c) = false := by simpa using h
      rcases idx_cases c s with ⟨h1, h2⟩ | ⟨a, t, rfl, h2, h3⟩
      · exact .inl ⟨by simp [Lib.indexByte, hb, h1], fun hm => by rcases List.mem_cons.1 hm with e | e; exact h e.symm; exact h2 e⟩
      · refine .inr ⟨b :: a, t, rfl, fun hm => by rcases List.mem_cons.1 hm with e | e; exact h e.symm; exact h2 e, ?_⟩
        have : ¬ ((a.length : Int) = -1) := by omega
        simp [Lib.indexByte, hb, h3, this]
end Go.Pd
namespace Go.Proofs.YtllcbjaajffaeaaGreatDoor
open Go.Am
set_option linter.unusedVariables false
set_option maxRecDepth 20000
set_option maxHeartbeats 4000000
attribute [local irreducible] OS LSr ODS CS YS
theorem IndexByteC_ct {L : RL} (s : List UInt8) (c : UInt8) : CS Tryz.prog 170 [str s, .int .u8 (c.toNat : Nat)] L fun v L' => v = .int .i64 (Lib.indexByte s c) ∧ L' = L := by
  refine CS.mk (fn := Tryz.f170) rfl rfl rfl rfl ?_
  refine yG ?_
  refine OS.ext (index_ext s c) rfl (fun _ => rfl) rfl ?_
  refine yG ?_
  exact ⟨rfl, rfl⟩
theorem IndexC_ct {L : RL} (s : List UInt8) (c : UInt8) : CS Tryz.prog 127 [str s, str [c]] L fun v L' => v = .int .i64 (Lib.indexByte s c) ∧ L' = L := by
  have k2 : CS Tryz.prog 144 [str s, str [c]] L fun v L' => v = .int .i64 (Lib.indexByte s c) ∧ L' = L := by
    refine CS.mk (fn := Tryz.f144) rfl rfl rfl rfl ?_
    rcases tf (bytesEq [c] s) with h | h
    · have hs : s = [c] := by rw [beq_bytes] at h; exact (of_decide_eq_true h).symm
      refine yG ?_
      refine ⟨?_, rfl⟩
      subst hs
      simp [Lib.indexByte]
      rfl
    · refine yG ?_
      refine OS.pure rfl (e_byte (j := 0) rfl rfl rfl rfl rfl) rfl ?_
      refine OS.call noGo rfl (fun _ => rfl) ((IndexByteC_ct s c).mono ?_)
      rintro v L' ⟨rfl, rfl⟩
      refine ⟨_, rfl, ?_⟩
      refine yG ?_
      exact ⟨rfl, rfl⟩
  refine CS.mk (fn := Tryz.f127) rfl rfl rfl rfl ?_
  refine yG ?_
  refine OS.call noGo rfl (fun _ => rfl) ((k2).mono ?_)
  rintro v L' ⟨rfl, rfl⟩
  refine ⟨_, rfl, ?_⟩
  refine yG ?_
  exact ⟨rfl, rfl⟩
abbrev sRow (s : List UInt8) : ARow := .cells 9 [str s]
abbrev iRow (n : Nat) : ARow := .cells 3 [.int .i64 (n : Nat)]
theorem SplitSeq_ct {L : RL} (s : List UInt8) (c : UInt8) : CS Tryz.prog 67 [str s, str [c]] L fun v L' => ∃ rs rp rz, v = .func (.func 125) #[] #[ptr rp, ptr rs, ptr rz] ∧ L' = (rz, iRow 0) :: (rp, sRow [c]) :: (rs, sRow s) :: L := by
  have key : CS Tryz.prog 94 [str s, str [c], .int .i64 0] L fun v L' => ∃ rs rp rz, v = .func (.func 125) #[] #[ptr rp, ptr rs, ptr rz] ∧ L' = (rz, iRow 0) :: (rp, sRow [c]) :: (rs, sRow s) :: L := by
    refine CS.mk (fn := Tryz.f94) rfl rfl rfl rfl ?_
    refine yG ?_
    refine OS.fresh rfl (e_box rfl rfl ⟨rfl, rfl⟩ rfl) (fun _ => rfl) (fun rs => ?_)
    refine OS.fresh rfl (e_box rfl rfl ⟨rfl, rfl⟩ rfl) (fun _ => rfl) (fun rp => ?_)
    refine OS.fresh rfl (e_box rfl rfl ⟨rfl, rfl⟩ rfl) (fun _ => rfl) (fun rz => ?_)
    refine yG ?_
    exact ⟨rs, rp, rz, rfl, rfl⟩
  refine CS.mk (fn := Tryz.f67) rfl rfl rfl rfl ?_
  refine yG ?_
  refine OS.call noGo rfl (fun _ => rfl) ((key).mono ?_)
  rintro v L' ⟨rs, rp, rz, rfl, rfl⟩
  refine ⟨_, rfl, ?_⟩
  refine yG ?_
  exact ⟨rs, rp, rz, rfl, rfl⟩
theorem split1_ct {rs rp rz r : Nat} {c : UInt8} {s : List UInt8} {G : RL} (hs : s.length ≤ 1000000000000) (J : Nat → RL → Prop) (S : RL → Prop) (hr : ∀ k G, J k G → ∃ q, (r, .loop q) ∈ G) (h0 : J 0 G)
    (hyes : ∀ k w G X, (Go.Pd.cuts c s)[k]? = some w → J k G → YS Tryz.prog r [str w] (G ++ X) fun v L' => ∃ G', L' = G' ++ X ∧ ((v = .bool true ∧ J (k + 1) G') ∨ (v = .bool false ∧ S G'))) :
    CS Tryz.prog 125 [.func (.yield r) #[] #[], ptr rp, ptr rs, ptr rz] ((rz, iRow 0) :: (rp, sRow [c]) :: (rs, sRow s) :: G) fun v L' => ∃ G' t, (J (Go.Pd.cuts c s).length G' ∨ S G') ∧ L' = (rz, iRow 0) :: (rp, sRow [c]) :: (rs, sRow t) :: G' := by
  refine CS.mk (fn := Tryz.f125) rfl rfl rfl rfl ?_
  refine yG ?_
  refine LS.loopJ [0, 1, 2, 3] (fun q a L' => ∃ k w G, q = w.length ∧ w.length ≤ s.length ∧ (Go.Pd.cuts c s).drop k = Go.Pd.cuts c w ∧ J k G ∧ L' = (rz, iRow 0) :: (rp, sRow [c]) :: (rs, sRow w) :: G ∧
    a = [.func (.yield r) #[] #[], ptr rp, ptr rs, ptr rz, .chan none, .chan none, .chan none, .chan none, .chan none, .chan none, .chan none, .chan none, .chan none, .chan none, .chan none, .chan none, .chan none, .chan none, .chan none, .chan none, .chan none, .chan none, .chan none, .chan none, .chan none, .chan none, .chan none, .chan none, .chan none, .chan none, .chan none, .chan none, .chan none, .chan none, .chan none, .chan none, .chan none, .chan none, .chan none, .chan none, .chan none, .chan none, .chan none, .chan none, .chan none, .chan none, .chan none, .chan none, .chan none, .chan none, .chan none, .chan none]) (n := s.length) rfl ⟨0, s, G, rfl, Nat.le_refl _, rfl, h0, rfl, rfl⟩ ?_
  rintro q a L' ⟨k, w, G, rfl, hwl, hD, hJ, rfl, rfl⟩
  obtain ⟨q, hq⟩ := hr k G hJ
  refine yG ?_
  refine OS.call noGo rfl (fun _ => rfl) ((IndexC_ct w c).mono ?_)
  rintro v L' ⟨rfl, rfl⟩
  refine ⟨_, rfl, ?_⟩
  rcases Go.Pd.idx_cases c w with ⟨h1, h2⟩ | ⟨x, t, rfl, h2, h3⟩
  · rw [h1]
    have hget : (Go.Pd.cuts c s)[k]? = some w := by
      have := congrArg (·[0]?) hD
      rw [Go.Pd.cuts_none h2] at this
      simpa [List.getElem?_drop] using this
    have hlen : (Go.Pd.cuts c s).length = k + 1 := by
      have := congrArg List.length hD
      rw [Go.Pd.cuts_none h2, List.length_drop] at this
      simp at this; omega
    refine yG ?_
    refine LS.exit ?_
    refine yG ?_
    have hy := hyes k w G [(rz, iRow 0), (rp, sRow [c]), (rs, sRow w)] hget hJ
    refine OS.yield rfl rfl rfl rfl rfl ⟨q, by simp [hq]⟩ (YS.sub (L' := G ++ [_, _, _]) (Sub.rot (X := [_, _, _])) (hy.mono ?_))
    rintro v L' ⟨G', rfl, hv⟩
    rcases hv with ⟨rfl, hJ'⟩ | ⟨rfl, hS⟩
    · refine ⟨_, rfl, ?_⟩
      refine OS.sub (Sub.rot (G := [_, _, _]) (X := G')) ?_
      refine yG ?_
      refine ⟨_, fun _ _ => rfl, G', w, .inl (by rw [hlen]; exact hJ'), rfl⟩
    · refine ⟨_, rfl, ?_⟩
      refine OS.sub (Sub.rot (G := [_, _, _]) (X := G')) ?_
      refine yG ?_
      refine ⟨_, fun _ _ => rfl, G', w, .inr hS, rfl⟩
  · rw [h3]
    have hget : (Go.Pd.cuts c s)[k]? = some x := by
      have := congrArg (·[0]?) hD
      rw [Go.Pd.cuts_at h2] at this
      simpa [List.getElem?_drop] using this
    have hD' : (Go.Pd.cuts c s).drop (k + 1) = Go.Pd.cuts c t := by
      have := congrArg (List.drop 1) hD
      rw [Go.Pd.cuts_at h2] at this
      simpa [List.drop_drop, Nat.add_comm] using this
    have hxl : x.length + 1 ≤ s.length := by simp at hwl; omega
    have hneg : ileB 0 ((x.length : Nat) : Int) = true := by rw [ileB_eq]; simp
    refine yG ?_
    refine OS.pure rfl (e_part (s := x ++ c :: t) (l := 0) (u := x.length) rfl rfl rfl rfl rfl rfl rfl (by simp) (by omega)) rfl ?_
    have e1 : ((x ++ c :: t).drop 0).take (x.length - 0) = x := by simp
    rw [e1]
    refine yG ?_
    have hy := hyes k x G [(rz, iRow 0), (rp, sRow [c]), (rs, sRow (x ++ c :: t))] hget hJ
    refine OS.yield rfl rfl rfl rfl rfl ⟨q, by simp [hq]⟩ (YS.sub (L' := G ++ [_, _, _]) (Sub.rot (X := [_, _, _])) (hy.mono ?_))
    rintro v L' ⟨G', rfl, hv⟩
    rcases hv with ⟨rfl, hJ'⟩ | ⟨rfl, hS⟩
    · refine ⟨_, rfl, ?_⟩
      refine OS.sub (Sub.rot (G := [_, _, _]) (X := G')) ?_
      refine yG ?_
      refine OS.pure rfl (e_part (s := x ++ c :: t) (l := x.length + 1) (u := (x ++ c :: t).length) rfl rfl rfl rfl rfl rfl rfl (by omega) (by simp)) rfl ?_
      have e2 : ((x ++ c :: t).drop (x.length + 1)).take ((x ++ c :: t).length - (x.length + 1)) = t := by
        rw [List.drop_append, List.drop_eq_nil_of_le (by omega), List.nil_append, show x.length + 1 - x.length = 1 by omega, List.drop_succ_cons, List.drop_zero]
        exact List.take_of_length_le (by simp; omega)
      rw [e2]
      refine yG ?_
      exact ⟨t.length, by simp; omega, k + 1, t, G', rfl, by simp at hwl; omega, hD', hJ', rfl, rfl⟩
    · refine ⟨_, rfl, ?_⟩
      refine OS.sub (Sub.rot (G := [_, _, _]) (X := G')) ?_
      refine yG ?_
      exact ⟨G', _, .inr hS, rfl⟩
theorem SJoin_ct {L : RL} {v : Value} {A : List (List UInt8)} (hv : SV 1 L v A.length (strs A)) (hA : A ≠ []) (hl : A.length ≤ 1000000) (hj : (Lib.join A [32]).length ≤ 1000000) : CS Tryz.prog 193 [v, str [32]] L fun u L' => u = str (Lib.join A [32]) ∧ L' = L := by
  have hp : 1 ≤ A.length := by cases A with
    | nil => exact absurd rfl hA
    | cons => simp
  rcases hv with ⟨_, h0, _⟩ | ⟨r, off, cap, row, cs₀, rfl, hm, hc, hcut⟩
  · omega
  obtain ⟨hcs, hle, _, _⟩ := cut_eq hcut
  refine CS.of_callsA ⟨_, _, rfl, rfl⟩ fun h H ρ us w hus HR => ?_
  cases hus with
  | cons h1 h2 =>
  cases h2 with
  | cons h2 h3 =>
  cases h3
  cases h2
  cases h1 with
  | @slice _ _ _ _ cap' a hl' hc' ha =>
  obtain ⟨l, hlr, rfl, _⟩ := ha (by omega)
  obtain ⟨l2, hl2, hrd⟩ := HR.at_read (H.mem hm hc)
  rw [hlr] at hl2; simp only [Option.some.injEq] at hl2; subst hl2
  have hcell : ∀ (j : Nat) x, (A.map fun s => (⟨⟨s⟩⟩ : ByteArray))[j]? = some x → w.cell? ⟨l.block, l.base + off + j, none⟩ = some (.string x) := by
    intro j x hx
    have hx' : (strs A)[j]? = some (.string x) := by
      rw [List.getElem?_map] at hx
      cases hA' : A[j]? with
      | none => rw [hA'] at hx; cases hx
      | some s => rw [hA'] at hx; simp only [Option.map_some, Option.some.injEq] at hx; subst hx; simp [strs, hA']
    have h0 : cs₀[off + j]? = some (.string x) := by
      rw [hcs, List.getElem?_take, List.getElem?_drop] at hx'
      split at hx'
      · exact hx'
      · cases hx'
    obtain ⟨u, hu, hv⟩ := hrd _ _ h0
    cases hv
    rw [← hu]; congr 2; omega
  have hmap : (A.map fun s => (⟨⟨s⟩⟩ : ByteArray)).map (·.data.toList) = A := by rw [List.map_map]; simp [Function.comp_def]
  have hlen : (A.map fun s => (⟨⟨s⟩⟩ : ByteArray)).length = A.length := List.length_map ..
  have hblk : l.block < w.heap.size := by
    cases hA0 : A with
    | nil => exact absurd hA0 hA
    | cons s A' =>
      have := hcell 0 ⟨⟨s⟩⟩ (by rw [hA0]; rfl)
      rcases Nat.lt_or_ge l.block w.heap.size with hh | hh
      · exact hh
      · simp [World.cell?, Array.getElem?_eq_none hh] at this
  have key := Tryz.strings_Join l.block (l.base + off) cap' (A.map fun s => (⟨⟨s⟩⟩ : ByteArray)) ⟨⟨[32]⟩⟩ w hcell hblk (by omega) (by omega) (by rw [hmap]; show (Lib.join A [32]).length ≤ _; omega)
  rw [hmap, hlen] at key
  exact key.mono fun e w' ⟨he, hB⟩ => ⟨_, he, .string _, hB⟩
end Go.Proofs.YtllcbjaajffaeaaGreatDoor
