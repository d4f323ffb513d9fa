/- Layer 8: the sum of all that stands on a value's blocks. -/
import Derived.Test.YteiiekfccecoiaaBb
namespace Go.Am
theorem Sub.tail {x : Nat × ARow} {L : RL} : Sub L (x :: L) := Sub.suffix (X := [x])
theorem Sub.self {L : RL} : Sub L L := ⟨[], by simp⟩
theorem Sub.cons {A B : RL} {x : Nat × ARow} (s : Sub A B) : Sub (x :: A) (x :: B) := by
  obtain ⟨X, hX⟩ := s
  exact ⟨X, hX.cons x⟩
theorem Sub.swap {A Y G : RL} : Sub (A ++ (Y ++ G)) (Y ++ (A ++ G)) := ⟨[], by
  rw [List.append_nil, ← List.append_assoc, ← List.append_assoc]
  exact List.perm_append_comm.append_right G⟩
theorem Sub.mem {A B : RL} (s : Sub A B) : ∀ p, p ∈ A → p ∈ B := by
  obtain ⟨X, hX⟩ := s
  exact fun p hp => hX.mem_iff.2 (List.mem_append_left _ hp)
end Go.Am
namespace Go.Proofs.Yteiiekfccecoiaa
open Go.Am
set_option linter.unusedVariables false
set_option maxRecDepth 20000

/-- A block's bytes, as they are handed about. -/
abbrev bv (r : Nat) : Value := .slice (some ⟨r, 0, none⟩) 256 256
/-- A list of blocks' bytes. -/
def AV (L : RL) (v : Value) (n : Nat) (rs : List Nat) : Prop :=
  ∃ ra cap, v = .slice (some ⟨ra, 0, none⟩) n cap ∧ (ra, .cells 73 (rs.map bv)) ∈ L ∧ rs.length = n ∧ (cap = openCap ∨ (n ≤ cap ∧ cap < openCap))
theorem AV.sv {L : RL} {v : Value} {n : Nat} {rs : List Nat} (h : AV L v n rs) : SV 1 L v n (rs.map bv) := by
  obtain ⟨ra, cap, rfl, hm, hl, hc⟩ := h
  exact SV.row hm (by simp [hl])
theorem AV.mono {L L' : RL} {v : Value} {n : Nat} {rs : List Nat} (h : AV L v n rs) (hm : ∀ p, p ∈ L → p ∈ L') : AV L' v n rs := by
  obtain ⟨ra, cap, rfl, h1, hl, hc⟩ := h
  exact ⟨ra, cap, rfl, hm _ h1, hl, hc⟩
theorem AV.cons {L : RL} {x : Nat × ARow} {v : Value} {n : Nat} {rs : List Nat} (h : AV L v n rs) : AV (x :: L) v n rs := h.mono fun _ hp => List.mem_cons_of_mem _ hp
/-- The rows of these names have these blocks' bytes. -/
def Rd (L : RL) (rs : List Nat) (bs : List (List UInt8)) : Prop := rs.length = bs.length ∧ ∀ (k r : Nat) (b : List UInt8), rs[k]? = some r → bs[k]? = some b → b.length = 256 ∧ ∃ e, (r, .cells e (byteCells b)) ∈ L
theorem Rd.mono {L L' : RL} {rs : List Nat} {bs : List (List UInt8)} (h : Rd L rs bs) (hm : ∀ p, p ∈ L → p ∈ L') : Rd L' rs bs :=
  ⟨h.1, fun k r b h1 h2 => let ⟨a, e, hp⟩ := h.2 k r b h1 h2; ⟨a, e, hm _ hp⟩⟩
theorem Rd.cons {L : RL} {x : Nat × ARow} {rs : List Nat} {bs : List (List UInt8)} (h : Rd L rs bs) : Rd (x :: L) rs bs := h.mono fun _ hp => List.mem_cons_of_mem _ hp
theorem OS.cutAV {ops rest : List Oper} {o : Oper} {a : Slots} {T L : RL} {K : Slots → RL → Prop} {t : TypeId} {x : Operand} {lo hi : Option Operand} {lo' hi' : Option Value} {v : Value} {n l u : Nat} {rs : List Nat} (hT : ∀ p, p ∈ T → p ∈ L) (hs : AV T v n rs) (hw : wantedB ops o a = true) (ho : o.op = .slice t x lo hi none) (hx : aev a x = some v)
    (hlo : optEv a lo = some lo') (hhi : optEv a hi = some hi') (bl : boundB lo' 0 = some l) (bu : boundB hi' n = some u) (ht : Try.prog.underlying t = some (.slice 73)) (hz : sizeB Try.prog 73 = some 1) (hu : u ≤ n) (hl : l ≤ u)
    (hk : ∀ v', SV 1 T v' (u - l) (((rs.drop l).take (u - l)).map bv) → ∃ a₁, putAt a o.dst v' = some a₁ ∧ OS Try.prog ops rest a₁ L K) : OS Try.prog ops (o :: rest) a L K := by
  obtain ⟨ra, cap, rfl, hm, hlen, hc⟩ := hs
  obtain ⟨i, hi2⟩ := List.mem_iff_getElem?.1 (hT _ hm)
  have hcut : cut (rs.map bv) (0 + l * 1) ((u - l) * 1) = some (((rs.drop l).take (u - l)).map bv) := by
    rw [cut_of (by simp; omega), Nat.mul_one, Nat.mul_one, Nat.zero_add]; simp [List.map_take, List.map_drop]
  rcases hc with rfl | ⟨h1, h2⟩
  · obtain ⟨a₁, ep, k⟩ := hk (.slice (some ⟨ra, 0 + l * 1, none⟩) (u - l) openCap) (.inr ⟨ra, _, openCap, _, _, rfl, hm, rfl, hcut⟩)
    exact Am.OS.read hw (e_slice i ho hx hlo hhi bl bu ht hz hu hl hi2) ep k
  · obtain ⟨a₁, ep, k⟩ := hk (.slice (some ⟨ra, 0 + l * 1, none⟩) (u - l) (cap - l)) (.inr ⟨ra, _, cap - l, _, _, rfl, hm, rfl, hcut⟩)
    refine Am.OS.pure hw (fun h => ?_) ep k
    have hcb : Nat.beq cap openCap = false := beq_false (by omega)
    have hm' : optEv a none = some none := rfl
    have h3 : Nat.ble u (farB n cap) = true := by unfold farB; rw [hcb]; simp only; exact Nat.ble_eq_true_of_le (by omega)
    have h4 : Nat.ble l u = true := Nat.ble_eq_true_of_le hl
    have h5 : rowOk h 73 (some ⟨ra, 0, none⟩) cap = true := by unfold rowOk; rw [hcb]; exact Nat.ble_eq_true_of_le (by omega)
    simp only [opB, ho, hx, hlo, hhi, hm', sliceB, ht, bu, bl, hz, h3, h4, h5, Bool.and_self, moved, hcb, ret]

theorem sumOf_ct {L : RL} {v : Value} {n : Nat} {rs : List Nat} {bs : List (List UInt8)} (hv : AV L v n rs) (hr : Rd L rs bs) (h0 : 0 < n) (hn : n ≤ 1000000) : CS Try.prog 66 [v] L fun w L' => w = .int .u64 (sumT bs) ∧ L' = L := by
  have hrl : rs.length = n := by obtain ⟨_, _, _, _, h, _⟩ := hv; exact h
  have hbl : bs.length = n := hr.1.symm.trans hrl
  obtain ⟨r0, hr0⟩ : ∃ r, rs[0]? = some r := ⟨_, List.getElem?_eq_getElem (by omega)⟩
  obtain ⟨b0, hb0⟩ : ∃ b, bs[0]? = some b := ⟨_, List.getElem?_eq_getElem (by omega)⟩
  obtain ⟨hb0l, e0, hm0⟩ := hr.2 0 r0 b0 hr0 hb0
  suffices h : CS Try.prog 66 [v] L fun w L' => w = .int .u64 (sumT bs) ∧ ∃ x, L' = x :: L by
    exact h.less fun v L' ⟨h1, x, h2⟩ => ⟨L, by rw [h2]; exact Sub.tail, h1, rfl⟩
  refine CS.mk (fn := Try.f66) rfl rfl rfl rfl ?_
  repeat refine LS.seq ?_
  refine LS.region rfl ?_
  refine OS.pure rfl (fun _ => rfl) rfl ?_
  refine OS.nil ?_
  repeat refine LS.seq ?_
  refine LS.region rfl ?_
  refine OS.fresh rfl (e_new (fun _ => rfl) rfl) (fun _ => rfl) (fun rs' => ?_)
  refine OS.write rfl (e_store 0 rfl rfl rfl rfl rfl rfl rfl rfl) rfl ?_
  refine OS.nil ?_
  repeat refine LS.seq ?_
  refine LS.region rfl ?_
  refine OS.pure rfl (fun _ => rfl) rfl ?_
  refine OS.pure rfl (fun _ => rfl) rfl ?_
  refine OS.nil ?_
  repeat refine LS.seq ?_
  refine LS.region rfl ?_
  refine OS.pure rfl (fun _ => rfl) rfl ?_
  refine OS.pure rfl (fun _ => rfl) rfl ?_
  refine OS.at1 (j := 0) (u := bv r0) hv.cons.sv (by simp [hr0]) rfl rfl rfl rfl rfl rfl (fun r1 o1 row1 cs1 m1 c1 g1 => ?_)
  refine ⟨_, rfl, ?_⟩
  refine OS.read rfl (e_loadm m1 c1 rfl rfl (part_one rfl g1)) rfl ?_
  refine OS.pure rfl (fun _ => rfl) rfl ?_
  have hc5 : SV 1 L (.slice (some ⟨r0, 0, none⟩) 5 256) 5 (byteCells (b0.take 5)) := by
    have := sv_cut (cap := 256) (off := 0) (m := 5) hm0 (by omega)
    rwa [List.drop_zero] at this
  have hc13 : SV 1 L (.slice (some ⟨r0, 13, none⟩) 243 243) 243 (byteCells (b0.drop 13)) := by
    have := sv_cut (cap := 243) (off := 13) (m := 243) hm0 (by omega)
    rwa [List.take_of_length_le (by simp; omega)] at this
  refine OS.call noGo rfl (fun _ => rfl) ((add_ct hc5 (by omega)).mono ?_)
  rintro w L' rfl
  refine ⟨_, rfl, ?_⟩
  refine OS.nil ?_
  repeat refine LS.seq ?_
  refine LS.region rfl ?_
  refine OS.pure rfl (fun _ => rfl) rfl ?_
  refine OS.pure rfl (fun _ => rfl) rfl ?_
  refine OS.at1 (j := 0) (u := bv r0) hv.cons.sv (by simp [hr0]) rfl rfl rfl rfl rfl rfl (fun r1 o1 row1 cs1 m1 c1 g1 => ?_)
  refine ⟨_, rfl, ?_⟩
  refine OS.read rfl (e_loadm m1 c1 rfl rfl (part_one rfl g1)) rfl ?_
  refine OS.pure rfl (fun _ => rfl) rfl ?_
  refine OS.call noGo rfl (fun _ => rfl) ((add_ct hc13 (by omega)).mono ?_)
  rintro w L' rfl
  refine ⟨_, rfl, ?_⟩
  refine OS.nil ?_
  repeat refine LS.seq ?_
  refine LS.region rfl ?_
  refine OS.pure rfl (fun _ => rfl) rfl ?_
  refine OS.cutAV (l := 1) (u := n) (fun p hp => List.mem_cons_of_mem _ hp) hv rfl rfl rfl rfl rfl rfl rfl rfl rfl (Nat.le_refl _) h0 (fun v1 hv1 => ?_)
  have e1 : (rs.drop 1).take (n - 1) = rs.tail := by rw [List.drop_one, List.take_of_length_le (by simp; omega)]
  rw [e1] at hv1
  refine ⟨_, rfl, ?_⟩
  refine OS.pure rfl (e_len (L := L) hv1 rfl rfl rfl rfl rfl) rfl ?_
  refine OS.pure rfl (fun _ => rfl) rfl ?_
  refine OS.nil ?_
  obtain ⟨s0, hs0⟩ : ∃ s0, s0 = fnv (fnv 14695981039346656037 (b0.take 5)) (b0.drop 13) := ⟨_, rfl⟩
  have hsum : sumT bs = fnv s0 bs.tail.flatten := by
    unfold sumT
    rw [hb0, Option.getD_some, hs0]
    unfold fnv
    rw [List.foldl_append, List.foldl_append]
  rw [hsum, ← hs0]
  have htl : bs.tail.length = n - 1 := by simp; omega
  repeat refine LS.seq ?_
  refine LS.block ?_
  refine LS.loopJ [3, 4, 21, 22, 23] (fun q a L' => ∃ j, q = n - 1 - j ∧ j ≤ n - 1 ∧ L' = (rs', .cells 107 [.int .u64 (fnv s0 (bs.tail.take j).flatten)]) :: L ∧
    a = [.chan none, .chan none, .chan none, ptr rs', .func (.func 82) #[] #[ptr rs'], .chan none, .chan none, .chan none, .chan none, .chan none, .chan none, .chan none, .chan none, .chan none, .chan none, .chan none, .chan none, .chan none, .chan none, .chan none, .chan none, v1, .int .i64 ((n - 1 : Nat) : Int), .int .i64 (j : Nat), .chan none, .chan none, .chan none, .chan none, .chan none, .chan none, .chan none, .chan none]) (n := n - 1) rfl ⟨0, rfl, by omega, rfl, rfl⟩ ?_
  rintro q a L' ⟨j, rfl, hj, rfl, rfl⟩
  repeat refine LS.seq ?_
  refine LS.region rfl ?_
  refine OS.pure rfl (fun _ => rfl) rfl ?_
  refine OS.nil ?_
  repeat refine LS.seq ?_
  refine LS.cond rfl (fun hc => ?_) (fun hc => ?_)
  · have hc : (j : Int) < ((n - 1 : Nat) : Int) := lt_of hc
    have hjn : j < n - 1 := by omega
    obtain ⟨rj, hrj⟩ : ∃ r, rs[j + 1]? = some r := ⟨_, List.getElem?_eq_getElem (by omega)⟩
    obtain ⟨bj, hbj⟩ : ∃ b, bs[j + 1]? = some b := ⟨_, List.getElem?_eq_getElem (by omega)⟩
    obtain ⟨hbjl, ej, hmj⟩ := hr.2 (j + 1) rj bj hrj hbj
    have hbt : bs.tail[j]? = some bj := by rw [List.getElem?_tail]; exact hbj
    have hstep : fnv s0 (bs.tail.take (j + 1)).flatten = fnv (fnv s0 (bs.tail.take j).flatten) bj := by
      rw [List.take_add_one, hbt, List.flatten_append]
      unfold fnv
      rw [List.foldl_append]
      simp
    have hcj : SV 1 L (bv rj) 256 (byteCells bj) := SV.row hmj (by rw [byteCells_len]; omega)
    refine LS.skip ?_
    repeat refine LS.seq ?_
    refine LS.block ?_
    repeat refine LS.seq ?_
    refine LS.region rfl ?_
    refine OS.at1 (j := j) (u := bv rj) hv1.cons (by simp [hrj]) rfl rfl rfl rfl rfl rfl (fun r1 o1 row1 cs1 m1 c1 g1 => ?_)
    refine ⟨_, rfl, ?_⟩
    refine OS.read rfl (e_loadm m1 c1 rfl rfl (part_one rfl g1)) rfl ?_
    refine OS.pure rfl (fun _ => rfl) rfl ?_
    refine OS.nil ?_
    repeat refine LS.seq ?_
    refine LS.region rfl ?_
    refine OS.pure rfl (fun _ => rfl) rfl ?_
    refine OS.pure rfl (fun _ => rfl) rfl ?_
    refine OS.call noGo rfl (fun _ => rfl) ((add_ct hcj (by omega)).mono ?_)
    rintro w L' rfl
    refine ⟨_, rfl, ?_⟩
    refine OS.nil ?_
    repeat refine LS.seq ?_
    refine LS.region rfl ?_
    refine OS.pure rfl (e_add rfl rfl rfl (in_i64 (by omega) (by omega))) rfl ?_
    refine OS.pure rfl (fun _ => rfl) rfl ?_
    refine OS.nil ?_
    exact ⟨n - 1 - (j + 1), by omega, j + 1, rfl, by omega, by rw [hstep], rfl⟩
  have hc : ((n - 1 : Nat) : Int) ≤ j := nlt_of hc
  have hjn : j = n - 1 := by omega
  subst hjn
  rw [← htl, List.take_length]
  refine LS.exit ?_
  repeat refine LS.seq ?_
  refine LS.region rfl ?_
  refine OS.read rfl (e_load 0 rfl rfl rfl rfl rfl) rfl ?_
  refine OS.pure rfl (fun _ => rfl) rfl ?_
  refine OS.nil ?_
  refine LS.ret ⟨_, fun _ _ => rfl, ?_⟩
  exact ⟨rfl, _, rfl⟩
end Go.Proofs.Yteiiekfccecoiaa
