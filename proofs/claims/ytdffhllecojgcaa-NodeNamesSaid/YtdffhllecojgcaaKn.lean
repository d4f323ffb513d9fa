/- Layer 1, as layer 6 leans on it: counts, texts and truth values as bytes; readers of these, whose bytes lie in rows that are told. -/
import Derived.Test.YtdffhllecojgcaaAmR
import Derived.Test.YtdffhllecojgcaaProg
import Derived.Test.YtdffhllecojgcaaPure
import Derived.KernelRfl
namespace Go.Proofs.Ytdffhllecojgcaa
open Go.Am
set_option linter.unusedVariables false
set_option maxRecDepth 20000

theorem noGo : Am.noGo Try.prog = true := by kernel_rfl
theorem mixed : Try.prog.follows .mixedOrders = true := by kernel_rfl
theorem own_ct {L : RL} {b : Value} {bs : List UInt8} {n room : Nat} (hb : SV 1 L b n (byteCells bs)) (hn : n ≤ 400000000000) (hr : room ≤ 400000000000) :
    CS Try.prog 54 [b, .int .i64 room] L fun v L' => ∃ r, v = .slice (some ⟨r, 0, none⟩) n openCap ∧ L' = (r, .cells 5 (byteCells bs)) :: L := by
  have hl : bs.length = n := by have := hb.len; simpa [byteCells] using this
  refine CS.mk (fn := Try.f54) rfl rfl rfl rfl ?_
  repeat refine LS.seq ?_
  refine LS.region rfl ?_
  refine OS.pure rfl (fun _ => rfl) rfl ?_
  refine OS.nil ?_
  repeat refine LS.seq ?_
  refine LS.region rfl ?_
  refine OS.pure rfl (fun _ => rfl) rfl ?_
  refine OS.pure rfl (e_len hb rfl rfl rfl rfl rfl) rfl ?_
  refine OS.pure rfl (fun _ => rfl) rfl ?_
  refine OS.pure rfl (e_add rfl rfl rfl (in_i64 (by omega) (by omega))) rfl ?_
  refine OS.fresh rfl (e_make (l := 0) (c := n + room) (e := 5) (sz := 1) (bts := 1) (zs := [.int .u8 0]) rfl rfl rfl rfl (by omega) (by omega) (by omega)) (fun _ => rfl) (fun r => ?_)
  refine OS.opened 9 0 (sz := 1) rfl rfl rfl (by rw [repL_len]; simp) (by unfold openCap; omega) rfl ?_
  refine OS.pure rfl (fun _ => rfl) rfl ?_
  refine OS.fresh rfl (e_appendSV 0 (sz := 1) (bts := 1) (old := []) hb.cons (byteCells_one bs) rfl rfl rfl (by omega) (by omega) rfl cut_zero rfl) (fun _ => rfl) (fun r2 => ?_)
  refine OS.pure rfl (fun _ => rfl) rfl ?_
  refine OS.nil ?_
  refine LS.ret ⟨_, fun _ _ => rfl, ?_⟩
  exact ⟨r2, by simp [tupleB], rfl⟩
theorem addGroups_ct (u : Nat) (hu : u < 18446744073709551616) {F : RL} {r n : Nat} {bs : List UInt8} (hn : n ≤ 500000000000) (hl : bs.length = n) :
    CS Try.prog 70 [.slice (some ⟨r, 0, none⟩) n openCap, .int .u64 u] ((r, .cells 5 (byteCells bs)) :: F) fun v L' => ∃ r, v = .slice (some ⟨r, 0, none⟩) (n + (grp u).length) openCap ∧ L' = (r, .cells 5 (byteCells (bs ++ grp u))) :: F := by
  have hg : (grp u).length ≤ 10 := grp_len (by omega) (by omega)
  refine CS.mk (fn := Try.f70) rfl rfl rfl rfl ?_
  repeat refine LS.seq ?_
  refine LS.region rfl ?_
  refine OS.pure rfl (fun _ => rfl) rfl ?_
  refine OS.nil ?_
  repeat refine LS.seq ?_
  repeat refine LS.seq ?_
  refine LS.block ?_
  refine LS.loop (fun m a L => ∃ r k n b x1 x2 x3 x4 x5 x6 x7 x8 x9 x10 x11 x12 x13 x14 x15 x16, m = k ∧ b.length = n ∧ L = (r, .cells 5 (byteCells b)) :: F ∧ b ++ grp k = bs ++ grp u ∧ k ≤ u ∧ a = [.slice (some ⟨r, 0, none⟩) n openCap, .int .u64 (k : Nat), x1, x2, .slice none 0 0, x3, x4, x5, x6, x7, x8, x9, x10, x11, x12, x13, x14, x15, x16, undef, undef]) (n := u) ⟨r, u, n, bs, _, _, _, _, _, _, _, _, _, _, _, _, _, _, _, _, rfl, hl, rfl, rfl, Nat.le_refl _, rfl⟩ ?_
  rintro m a L ⟨r, k, n', b, x1, x2, x3, x4, x5, x6, x7, x8, x9, x10, x11, x12, x13, x14, x15, x16, rfl, hbl, rfl, hb, hk, rfl⟩
  have hlen : n' + (grp m).length = n + (grp u).length := by have := congrArg List.length hb; simpa [hl, hbl] using this
  repeat refine LS.seq ?_
  refine LS.region rfl ?_
  refine OS.pure rfl (fun _ => rfl) rfl ?_
  refine OS.pure rfl (fun _ => rfl) rfl ?_
  refine OS.nil ?_
  repeat refine LS.seq ?_
  refine LS.cond rfl (fun hc => ?_) (fun hc => ?_)
  · refine LS.skip ?_
    have hc := le_of hc
    have hm : 128 ≤ m := by omega
    have hc8 : (UInt8.ofNat (m % 128 + 128)).toNat = m % 128 + 128 := toNat_of (by omega)
    repeat refine LS.seq ?_
    refine LS.block ?_
    repeat refine LS.seq ?_
    refine LS.region rfl ?_
    refine OS.pure rfl (fun _ => rfl) rfl ?_
    refine OS.pure rfl (fun _ => rfl) rfl ?_
    refine OS.pure rfl (e_rem (n := 128) rfl rfl rfl (by decide)) rfl ?_
    refine OS.pure rfl (e_conv rfl rfl rfl rfl (in_u8 (by omega) (by omega))) rfl ?_
    refine OS.pure rfl (e_add rfl rfl rfl (in_u8 (by omega) (by omega))) rfl ?_
    refine OS.fresh rfl (e_new (fun _ => rfl) rfl) (fun _ => rfl) (fun r2 => ?_)
    refine OS.fresh rfl (e_appendSV 1 (sz := 1) (bts := 1) (SV.row (sz := 1) (n := 1) (List.mem_cons_self ..) rfl) rfl rfl rfl rfl (by omega) (by omega) rfl (cut_all (by rw [byteCells_len]; omega)) rfl) (fun _ => rfl) (fun r3 => ?_)
    refine OS.pure rfl (fun _ => rfl) rfl ?_
    refine OS.sub (Sub.drop 1 rfl) ?_
    refine OS.nil ?_
    repeat refine LS.seq ?_
    refine LS.region rfl ?_
    refine OS.pure rfl (fun _ => rfl) rfl ?_
    refine OS.pure rfl (e_quo (n := 128) rfl rfl rfl (by decide) (in_u64 (by omega) (by omega))) rfl ?_
    refine OS.pure rfl (fun _ => rfl) rfl ?_
    refine OS.nil ?_
    refine ⟨m / 128, by omega, r3, m / 128, _, b ++ [UInt8.ofNat (m % 128 + 128)], _, _, _, _, _, _, _, _, _, _, _, _, _, _, _, _, rfl, by simpa using hbl, ?_, ?_, by omega, rfl⟩
    · rw [byteCells_snoc]; rw [hc8]; rfl
    · rw [← hb, grp_ge hm]; simp
  · have hc := nle_of hc
    have hm : m < 128 := by omega
    have hc8 : (UInt8.ofNat m).toNat = m := toNat_of (by omega)
    rw [grp_lt hm] at hlen hb
    simp at hlen
    refine LS.exit ?_
    repeat refine LS.seq ?_
    refine LS.region rfl ?_
    refine OS.pure rfl (fun _ => rfl) rfl ?_
    refine OS.pure rfl (fun _ => rfl) rfl ?_
    refine OS.pure rfl (e_conv rfl rfl rfl rfl (in_u8 (by omega) (by omega))) rfl ?_
    refine OS.fresh rfl (e_new (fun _ => rfl) rfl) (fun _ => rfl) (fun r2 => ?_)
    refine OS.fresh rfl (e_appendSV 1 (sz := 1) (bts := 1) (SV.row (sz := 1) (n := 1) (List.mem_cons_self ..) rfl) rfl rfl rfl rfl (by omega) (by omega) rfl (cut_all (by rw [byteCells_len]; omega)) rfl) (fun _ => rfl) (fun r3 => ?_)
    refine OS.pure rfl (fun _ => rfl) rfl ?_
    refine OS.sub (Sub.drop 1 rfl) ?_
    refine OS.nil ?_
    refine LS.ret ⟨_, fun _ _ => rfl, ?_⟩
    exact ⟨r3, by simp [tupleB, hlen], by rw [byteCells_snoc (b := UInt8.ofNat m) _ (by rw [hc8]), hb]⟩
theorem isCount_ct {L : RL} (n : Int) : CS Try.prog 69 [.int .i64 n] L fun v L' => v = .bool (decide (0 ≤ n ∧ n ≤ 2147483647)) ∧ L' = L := by
  refine CS.mk (fn := Try.f69) rfl rfl rfl rfl ?_
  repeat refine LS.seq ?_
  refine LS.region rfl ?_
  refine OS.pure rfl (fun _ => rfl) rfl ?_
  refine OS.nil ?_
  by_cases h : 0 ≤ n
  · have hb : ileB 0 n = true := ileB_iff.2 h
    repeat refine LS.seq ?_
    refine LS.region rfl ?_
    refine OS.pure rfl (fun _ => rfl) rfl ?_
    refine OS.pure rfl (e_is (fun _ => rfl) (congrArg Value.bool hb)) rfl ?_
    refine OS.pure rfl (fun _ => rfl) rfl ?_
    refine OS.pure rfl (fun _ => rfl) rfl ?_
    refine OS.pure rfl (fun _ => rfl) rfl ?_
    refine OS.pure rfl (fun _ => rfl) rfl ?_
    refine OS.pure rfl (fun _ => rfl) rfl ?_
    refine OS.nil ?_
    refine LS.ret ⟨_, fun _ _ => rfl, ?_⟩
    refine ⟨?_, rfl⟩
    rw [ileB_eq]
    simp [h, tupleB]
  · have hb : ileB 0 n = false := by rw [ileB_eq]; simpa using h
    repeat refine LS.seq ?_
    refine LS.region rfl ?_
    refine OS.pure rfl (fun _ => rfl) rfl ?_
    refine OS.pure rfl (e_is (fun _ => rfl) (congrArg Value.bool hb)) rfl ?_
    refine OS.pure rfl (fun _ => rfl) rfl ?_
    refine OS.skip rfl rfl ?_
    refine OS.skip rfl rfl ?_
    refine OS.pure rfl (fun _ => rfl) rfl ?_
    refine OS.pure rfl (fun _ => rfl) rfl ?_
    refine OS.nil ?_
    refine LS.ret ⟨_, fun _ _ => rfl, ?_⟩
    refine ⟨?_, rfl⟩
    simp [h, tupleB]
/-- The bytes of a count; none, if it is none. -/
def cnt (m : Int) : List UInt8 := if 0 ≤ m ∧ m ≤ 2147483647 then grp m.toNat else []
theorem Count_ct {L : RL} {b : Value} {bs : List UInt8} {n : Nat} (m : Int) (hb : SV 1 L b n (byteCells bs)) (hn : n ≤ 400000000000) :
    CS Try.prog 44 [b, .int .i64 m] L fun v L' => ∃ r, v = .slice (some ⟨r, 0, none⟩) (n + (cnt m).length) openCap ∧ L' = (r, .cells 5 (byteCells (bs ++ cnt m))) :: L := by
  have hl : bs.length = n := by have := hb.len; simpa [byteCells] using this
  refine CS.mk (fn := Try.f44) rfl rfl rfl rfl ?_
  repeat refine LS.seq ?_
  refine LS.region rfl ?_
  refine OS.pure rfl (fun _ => rfl) rfl ?_
  refine OS.nil ?_
  by_cases hm : 0 ≤ m ∧ m ≤ 2147483647
  · obtain ⟨k, rfl⟩ := Int.eq_ofNat_of_zero_le hm.1
    have hc : cnt (k : Int) = grp k := by unfold cnt; rw [if_pos hm]; rfl
    repeat refine LS.seq ?_
    refine LS.region rfl ?_
    refine OS.pure rfl (fun _ => rfl) rfl ?_
    refine OS.call noGo rfl (fun _ => rfl) ((isCount_ct _).mono ?_)
    rintro v L' ⟨rfl, rfl⟩
    rw [decide_eq_true hm]
    refine ⟨_, rfl, ?_⟩
    refine OS.pure rfl (fun _ => rfl) rfl ?_
    refine OS.nil ?_
    repeat refine LS.seq ?_
    refine LS.cond rfl (fun h => ?_) (fun h => ?_)
    · cases h
    refine LS.skip ?_
    repeat refine LS.seq ?_
    refine LS.region rfl ?_
    refine OS.pure rfl (fun _ => rfl) rfl ?_
    refine OS.call noGo rfl (fun _ => rfl) ((own_ct (room := 5) hb hn (by omega)).mono ?_)
    rintro v L' ⟨r, rfl, rfl⟩
    refine ⟨_, rfl, ?_⟩
    refine OS.pure rfl (fun _ => rfl) rfl ?_
    refine OS.pure rfl (e_conv rfl rfl rfl rfl (in_u64 (by omega) (by omega))) rfl ?_
    refine OS.call noGo rfl (fun _ => rfl) ((addGroups_ct k (by omega) (by omega) hl).mono ?_)
    rintro v L' ⟨r, rfl, rfl⟩
    refine ⟨_, rfl, ?_⟩
    refine OS.pure rfl (fun _ => rfl) rfl ?_
    refine OS.nil ?_
    refine LS.ret ⟨_, fun _ _ => rfl, ?_⟩
    rw [hc]
    exact ⟨r, rfl, rfl⟩
  · have hc : cnt m = [] := by unfold cnt; rw [if_neg hm]
    repeat refine LS.seq ?_
    refine LS.region rfl ?_
    refine OS.pure rfl (fun _ => rfl) rfl ?_
    refine OS.call noGo rfl (fun _ => rfl) ((isCount_ct _).mono ?_)
    rintro v L' ⟨rfl, rfl⟩
    rw [decide_eq_false hm]
    refine ⟨_, rfl, ?_⟩
    refine OS.pure rfl (fun _ => rfl) rfl ?_
    refine OS.nil ?_
    repeat refine LS.seq ?_
    refine LS.cond rfl (fun h => ?_) (fun h => ?_)
    · repeat refine LS.seq ?_
      refine LS.region rfl ?_
      refine OS.pure rfl (fun _ => rfl) rfl ?_
      refine OS.call noGo rfl (fun _ => rfl) ((own_ct (room := 0) hb hn (by omega)).mono ?_)
      rintro v L' ⟨r, rfl, rfl⟩
      refine ⟨_, rfl, ?_⟩
      refine OS.pure rfl (fun _ => rfl) rfl ?_
      refine OS.nil ?_
      refine LS.ret ⟨_, fun _ _ => rfl, ?_⟩
      rw [hc]
      exact ⟨r, rfl, by simp⟩
    · cases h
theorem e_append_text (i : Nat) {P : Program} {a : Slots} {o : Oper} {L L₁ : RL} {c : Call} {e : TypeId} {bts len n r off : Nat} {s : List UInt8} {old cs : List Value} (ho : o.op = .call c) (hT : appT P c = some (e, 1, bts)) (ha : evs a c.args.toList = some [.slice (some ⟨r, off, none⟩) len openCap, .string ⟨⟨s⟩⟩])
    (hn : n = s.length) (hsm : (len + n) * bts ≤ 1000000000000) (hsm2 : len + n ≤ 1000000000000) (hL : L[i]? = some (r, .cells e cs)) (hcut : cut cs off (len * 1) = some old) (hd : dropL L i = some L₁) :
    ∀ h, Has h L → ∃ r' h₁, opB P a o h = some (.val (.slice (some ⟨r', 0, none⟩) (len + n) openCap) h₁) ∧ Has h₁ ((r', .cells e (old ++ byteCells s)) :: L₁) :=
  e_append i ho hT ha (by rw [hn]; rfl) (first_text hn) (by rw [byteCells_one]; rfl) hsm hsm2 hL hcut hd
theorem Str_ct {L : RL} {b : Value} {bs s : List UInt8} {n : Nat} (hs : s.length ≤ 200000) (hb : SV 1 L b n (byteCells bs)) (hn : n ≤ 300000000000) :
    CS Try.prog 47 [b, .string ⟨⟨s⟩⟩] L fun v L' => ∃ r, v = .slice (some ⟨r, 0, none⟩) (n + ((cnt s.length).length + s.length)) openCap ∧ L' = (r, .cells 5 (byteCells (bs ++ (cnt s.length ++ s)))) :: L := by
  have hl : bs.length = n := by have := hb.len; simpa [byteCells] using this
  have hm : 0 ≤ (s.length : Int) ∧ (s.length : Int) ≤ 2147483647 := by omega
  have hc : cnt (s.length : Int) = grp s.length := by unfold cnt; rw [if_pos hm]; rfl
  have hg : (grp s.length).length ≤ 10 := grp_len (by omega) (by omega)
  refine CS.mk (fn := Try.f47) rfl rfl rfl rfl ?_
  repeat refine LS.seq ?_
  refine LS.region rfl ?_
  refine OS.pure rfl (fun _ => rfl) rfl ?_
  refine OS.nil ?_
  repeat refine LS.seq ?_
  refine LS.region rfl ?_
  refine OS.pure rfl (fun _ => rfl) rfl ?_
  refine OS.pure rfl (fun _ => rfl) rfl ?_
  refine OS.call noGo rfl (fun _ => rfl) ((isCount_ct s.length).mono ?_)
  rintro v L' ⟨rfl, rfl⟩
  rw [decide_eq_true hm]
  refine ⟨_, rfl, ?_⟩
  refine OS.pure rfl (fun _ => rfl) rfl ?_
  refine OS.nil ?_
  repeat refine LS.seq ?_
  refine LS.cond rfl (fun h => ?_) (fun h => ?_)
  · cases h
  refine LS.skip ?_
  repeat refine LS.seq ?_
  refine LS.region rfl ?_
  refine OS.pure rfl (fun _ => rfl) rfl ?_
  refine OS.pure rfl (fun _ => rfl) rfl ?_
  refine OS.pure rfl (fun _ => rfl) rfl ?_
  refine OS.pure rfl (e_add (m := 5) (n := s.length) rfl rfl rfl (in_i64 (by omega) (by omega))) rfl ?_
  refine OS.call noGo rfl (fun _ => rfl) ((own_ct (room := 5 + s.length) hb (by omega) (by omega)).mono ?_)
  rintro v L' ⟨r, rfl, rfl⟩
  refine ⟨_, rfl, ?_⟩
  refine OS.pure rfl (fun _ => rfl) rfl ?_
  refine OS.pure rfl (fun _ => rfl) rfl ?_
  refine OS.pure rfl (e_conv (n := s.length) rfl rfl rfl rfl (in_u64 (by omega) (by omega))) rfl ?_
  refine OS.call noGo rfl (fun _ => rfl) ((addGroups_ct s.length (by omega) (by omega) hl).mono ?_)
  rintro v L' ⟨r, rfl, rfl⟩
  refine ⟨_, rfl, ?_⟩
  refine OS.pure rfl (fun _ => rfl) rfl ?_
  refine OS.nil ?_
  repeat refine LS.seq ?_
  refine LS.region rfl ?_
  refine OS.pure rfl (fun _ => rfl) rfl ?_
  refine OS.pure rfl (fun _ => rfl) rfl ?_
  refine OS.fresh rfl (e_append_text 0 (n := s.length) (bts := 1) rfl rfl rfl rfl (by omega) (by omega) rfl (cut_all (by rw [byteCells_len]; simp; omega)) rfl) (fun _ => rfl) (fun r2 => ?_)
  refine OS.pure rfl (fun _ => rfl) rfl ?_
  refine OS.nil ?_
  refine LS.ret ⟨_, fun _ _ => rfl, ?_⟩
  rw [hc]
  exact ⟨r2, by rw [Nat.add_assoc]; rfl, by rw [← byteCells_append, List.append_assoc]⟩
theorem Flag_ct {L : RL} {b : Value} {bs : List UInt8} {n : Nat} (v : Bool) (hb : SV 1 L b n (byteCells bs)) (hn : n ≤ 400000000000) :
    CS Try.prog 45 [b, .bool v] L fun v' L' => ∃ r, v' = .slice (some ⟨r, 0, none⟩) (n + 1) openCap ∧ L' = (r, .cells 5 (byteCells (bs ++ [if v then 1 else 0]))) :: L := by
  have hl : bs.length = n := by have := hb.len; simpa [byteCells] using this
  cases v
  all_goals
    refine CS.mk (fn := Try.f45) rfl rfl rfl rfl ?_
    repeat refine LS.seq ?_
    refine LS.region rfl ?_
    refine OS.pure rfl (fun _ => rfl) rfl ?_
    refine OS.nil ?_
    repeat refine LS.seq ?_
    refine LS.region rfl ?_
    refine OS.pure rfl (fun _ => rfl) rfl ?_
    refine OS.nil ?_
    repeat refine LS.seq ?_
    refine LS.region rfl ?_
    refine OS.pure rfl (fun _ => rfl) rfl ?_
    refine OS.nil ?_
    refine LS.cond rfl (fun h => ?_) (fun h => ?_) <;> first | (cases h; done) | skip
    first | refine LS.skip ?_ | (refine LS.region rfl ?_; refine OS.pure rfl (fun _ => rfl) rfl ?_; refine OS.nil ?_)
    repeat refine LS.seq ?_
    refine LS.region rfl ?_
    refine OS.pure rfl (fun _ => rfl) rfl ?_
    refine OS.call noGo rfl (fun _ => rfl) ((own_ct (room := 1) hb hn (by omega)).mono ?_)
    rintro v L' ⟨r, rfl, rfl⟩
    refine ⟨_, rfl, ?_⟩
    refine OS.pure rfl (fun _ => rfl) rfl ?_
    refine OS.fresh rfl (e_new (fun _ => rfl) rfl) (fun _ => rfl) (fun r2 => ?_)
    refine OS.fresh rfl (e_appendSV 1 (sz := 1) (bts := 1) (SV.row (sz := 1) (n := 1) (List.mem_cons_self ..) rfl) rfl rfl rfl rfl (by omega) (by omega) rfl (cut_all (by rw [byteCells_len]; omega)) rfl) (fun _ => rfl) (fun r3 => ?_)
    refine OS.pure rfl (fun _ => rfl) rfl ?_
    refine OS.sub (Sub.drop 1 rfl) ?_
    refine OS.nil ?_
    refine LS.ret ⟨_, fun _ _ => rfl, ?_⟩
    exact ⟨r3, rfl, by rw [byteCells_append]; rfl⟩
theorem groups_cs (u : Nat) (hu : u < 18446744073709551616) : CS Try.prog 71 [.int .u64 (u : Nat)] [] fun v _ => v = .string ⟨⟨grp u⟩⟩ ∧ Am.plain v = true := by
  induction u using Nat.strongRecOn with
  | _ u ih =>
  have hg : (grp u).length ≤ 10 := grp_len (by omega) (by omega)
  refine CS.mk (fn := Try.f71) rfl rfl rfl rfl ?_
  repeat refine LS.seq ?_
  refine LS.region rfl ?_
  refine OS.pure rfl (fun _ => rfl) rfl ?_
  refine OS.nil ?_
  by_cases h : u < 128
  · have hu1 := h
    have hb : (!ileB 128 (u : Int)) = true := by rw [ileB_eq]; simp; omega
    have hc8 : (UInt8.ofNat u).toNat = u := toNat_of (by omega)
    repeat refine LS.seq ?_
    refine LS.region rfl ?_
    refine OS.pure rfl (fun _ => rfl) rfl ?_
    refine OS.pure rfl (e_is (fun _ => rfl) (congrArg Value.bool hb)) rfl ?_
    refine OS.nil ?_
    refine LS.cond rfl (fun h => ?_) (fun h => by cases h)
    repeat refine LS.seq ?_
    refine LS.region rfl ?_
    refine OS.pure rfl (fun _ => rfl) rfl ?_
    refine OS.pure rfl (e_conv rfl rfl rfl rfl (in_u8 (by omega) (by omega))) rfl ?_
    refine OS.fresh rfl (e_new (fun _ => rfl) rfl) (fun _ => rfl) (fun r => ?_)
    refine OS.read rfl (e_textSV (n := 1) (bs := [UInt8.ofNat u]) (SV.row (sz := 1) (n := 1) (List.mem_cons_self ..) rfl |> fun h => by simpa [byteCells, hc8] using h) rfl rfl rfl rfl rfl) rfl ?_
    refine OS.pure rfl (fun _ => rfl) rfl ?_
    refine OS.nil ?_
    refine LS.ret ⟨_, fun _ _ => rfl, ?_⟩
    exact ⟨by rw [grp_lt hu1]; rfl, rfl⟩
  · have hb : (!ileB 128 (u : Int)) = false := by rw [ileB_eq]; simp; omega
    have hc8 : (UInt8.ofNat (u % 128 + 128)).toNat = u % 128 + 128 := toNat_of (by omega)
    repeat refine LS.seq ?_
    refine LS.region rfl ?_
    refine OS.pure rfl (fun _ => rfl) rfl ?_
    refine OS.pure rfl (e_is (fun _ => rfl) (congrArg Value.bool hb)) rfl ?_
    refine OS.nil ?_
    refine LS.cond rfl (fun h => by cases h) (fun h => ?_)
    refine LS.skip ?_
    have ih := ih (u / 128) (by omega) (by omega)
    have hg' : grp u = UInt8.ofNat (u % 128 + 128) :: grp (u / 128) := grp_ge (by omega)
    repeat refine LS.seq ?_
    refine LS.drawn noGo mixed [(0, false), (1, false), (2, false), (3, false), (6, false), (7, false), (8, false), (4, true), (5, false), (9, false), (10, false)] rfl rfl (by kernel_rfl) ?_
    refine ODS.pure rfl rfl (fun _ => rfl) rfl ?_
    refine ODS.pure rfl rfl (e_rem (n := 128) rfl rfl rfl (by decide)) rfl ?_
    refine ODS.pure rfl rfl (e_add rfl rfl rfl (in_u64 (by omega) (by omega))) rfl ?_
    refine ODS.pure rfl rfl (e_conv rfl rfl rfl rfl (in_u8 (by omega) (by omega))) rfl ?_
    refine ODS.pure rfl rfl (fun _ => rfl) rfl ?_
    refine ODS.pure rfl rfl (e_quo (n := 128) rfl rfl rfl (by decide) (in_u64 (by omega) (by omega))) rfl ?_
    refine ODS.still rfl rfl (fun _ => rfl) (CQ.still ih rfl) rfl ?_
    refine ODS.fresh rfl rfl (e_new (fun _ => rfl) rfl) (fun _ => rfl) (fun _ => Keep.nil) (fun r => ?_)
    refine ODS.read rfl rfl (e_textSV (n := 1) (bs := [UInt8.ofNat (u % 128 + 128)]) (SV.row (sz := 1) (n := 1) (List.mem_cons_self ..) rfl |> fun h => by rw [show byteCells [UInt8.ofNat (u % 128 + 128)] = [.int .u8 (128 + ((u % 128 : Nat) : Int))] by simp [byteCells]; omega]; exact h) rfl rfl rfl rfl rfl) rfl ?_
    refine ODS.pure rfl rfl (e_cat rfl rfl rfl (by simp; have := grp_len (k := 10) (u := u / 128) (by omega) (by omega); omega)) rfl ?_
    refine ODS.pure rfl rfl (fun _ => rfl) rfl ?_
    refine ODS.nil ?_
    refine LS.ret ⟨_, fun _ _ => rfl, ?_⟩
    exact ⟨by rw [hg']; rfl, rfl⟩
theorem groups_ct {L : RL} (u : Nat) (hu : u < 18446744073709551616) : CS Try.prog 71 [.int .u64 (u : Nat)] L fun v L' => v = .string ⟨⟨grp u⟩⟩ ∧ L' = L :=
  CS.still (groups_cs u hu) rfl
theorem behind_ct {F : RL} {b : Value} {bs s : List UInt8} {n : Nat} (hb : SV 1 F b n (byteCells bs)) (hn : n ≤ 400000000000) (hs : s.length ≤ 400000000000) :
    CS Try.prog 64 [b, .string ⟨⟨s⟩⟩] F fun v L' => GV 5 1 F v (n + s.length) (byteCells (bs ++ s)) L' := by
  have hl : bs.length = n := by have := hb.len; simpa [byteCells] using this
  refine CS.mk (fn := Try.f64) rfl rfl rfl rfl ?_
  repeat refine LS.seq ?_
  refine LS.region rfl ?_
  refine OS.pure rfl (fun _ => rfl) rfl ?_
  refine OS.nil ?_
  repeat refine LS.seq ?_
  refine LS.region rfl ?_
  refine OS.pure rfl (fun _ => rfl) rfl ?_
  refine OS.nil ?_
  repeat refine LS.seq ?_
  refine LS.region rfl ?_
  refine OS.pure rfl (fun _ => rfl) rfl ?_
  refine OS.nil ?_
  repeat refine LS.seq ?_
  refine LS.block ?_
  refine LS.loop (fun m a L => ∃ i out x1 x2 x3 x4 x5 x6 x7 x8 x9 x10 x11 x12 x13 x14 x15 x16 x17 x18 x19 x20 x21 x22 x23 x24 x25 x26 x27 x28, m = n - i ∧ i ≤ n ∧ GV 5 1 F out i (byteCells (bs.take i)) L ∧ a = [b, .string ⟨⟨s⟩⟩, x1, x2, .slice none 0 0, out, .int .i64 (i : Nat), x3, x4, x5, x6, x7, x8, x9, x10, x11, x12, x13, x14, x15, x16, x17, x18, x19, x20, x21, x22, x23, x24, x25, x26, x27, x28, undef]) (n := n) ⟨0, .slice none 0 0, _, _, _, _, _, _, _, _, _, _, _, _, _, _, _, _, _, _, _, _, _, _, _, _, _, _, _, _, rfl, by omega, GV.nil, rfl⟩ ?_
  rintro m a L ⟨i, out, x1, x2, x3, x4, x5, x6, x7, x8, x9, x10, x11, x12, x13, x14, x15, x16, x17, x18, x19, x20, x21, x22, x23, x24, x25, x26, x27, x28, rfl, hi, hg, rfl⟩
  repeat refine LS.seq ?_
  refine LS.region rfl ?_
  refine OS.pure rfl (fun _ => rfl) rfl ?_
  refine OS.pure rfl (fun _ => rfl) rfl ?_
  refine OS.pure rfl (e_len (hb.mono hg.mem) rfl rfl rfl rfl rfl) rfl ?_
  refine OS.pure rfl (fun _ => rfl) rfl ?_
  refine OS.nil ?_
  repeat refine LS.seq ?_
  refine LS.cond rfl (fun hc => ?_) (fun hc => ?_)
  · have hc := lt_of hc
    have hin : i < n := by omega
    refine LS.skip ?_
    repeat refine LS.seq ?_
    refine LS.block ?_
    repeat refine LS.seq ?_
    refine LS.region rfl ?_
    refine OS.pure rfl (fun _ => rfl) rfl ?_
    refine OS.pure rfl (fun _ => rfl) rfl ?_
    refine OS.pure rfl (fun _ => rfl) rfl ?_
    refine OS.at1 (j := i) (hb.mono hg.mem) (byteCells_get (List.getElem?_eq_getElem (by omega))) rfl rfl rfl rfl rfl rfl (fun r0 o0 row0 cs0 m0 c0 g0 => ?_)
    refine ⟨_, rfl, ?_⟩
    refine OS.read rfl (e_loadm m0 c0 rfl rfl (part_one rfl g0)) rfl ?_
    refine OS.fresh rfl (e_new (fun _ => rfl) rfl) (fun _ => rfl) (fun r2 => ?_)
    refine OS.fresh rfl (e_appendGV [_] (m := 1) (sz := 1) (bts := 1) hg (SV.row (sz := 1) (n := 1) (List.mem_cons_self ..) rfl) (by omega) rfl rfl rfl rfl (by omega) (by omega)) (fun _ => rfl) (fun r3 => ?_)
    refine OS.pure rfl (fun _ => rfl) rfl ?_
    refine OS.sub (Sub.drop 1 rfl) ?_
    refine OS.nil ?_
    repeat refine LS.seq ?_
    refine LS.region rfl ?_
    refine OS.pure rfl (fun _ => rfl) rfl ?_
    refine OS.pure rfl (e_add rfl rfl rfl (in_i64 (by omega) (by omega))) rfl ?_
    refine OS.pure rfl (fun _ => rfl) rfl ?_
    refine OS.nil ?_
    refine ⟨n - (i + 1), by omega, i + 1, _, _, _, _, _, _, _, _, _, _, _, _, _, _, _, _, _, _, _, _, _, _, _, _, _, _, _, _, _, rfl, by omega, ?_, rfl⟩
    have : bs.take (i + 1) = bs.take i ++ [bs[i]'(by omega)] := by rw [List.take_add_one, List.getElem?_eq_getElem (by omega)]; rfl
    rw [this, byteCells_append]
    refine GV.of ?_; simp [byteCells]; omega
  · have hc := nlt_of hc
    have hin : i = n := by omega
    rw [hin, List.take_of_length_le (by omega)] at hg
    refine LS.exit ?_
    repeat refine LS.seq ?_
    refine LS.region rfl ?_
    refine OS.pure rfl (fun _ => rfl) rfl ?_
    refine OS.nil ?_
    repeat refine LS.seq ?_
    refine LS.block ?_
    refine LS.loop (fun m a L => ∃ i out x1 x2 x3 x4 x5 x6 x7 x8 x9 x10 x11 x12 x13 x14 x15 x16 x17 x18 x19 x20 x21 x22 x23 x24 x25 x26 x27 x28 x29, m = s.length - i ∧ i ≤ s.length ∧ GV 5 1 F out (n + i) (byteCells (bs ++ s.take i)) L ∧ a = [b, .string ⟨⟨s⟩⟩, x1, x2, .slice none 0 0, out, x3, .int .i64 (i : Nat), x4, x5, x6, x7, x8, x9, x10, x11, x12, x13, x14, x15, x16, x17, x18, x19, x20, x21, x22, x23, x24, x25, x26, x27, x28, x29]) (n := s.length) ⟨0, _, _, _, _, _, _, _, _, _, _, _, _, _, _, _, _, _, _, _, _, _, _, _, _, _, _, _, _, _, _, rfl, by omega, by simpa using hg, rfl⟩ ?_
    rintro m a L ⟨i, out, x1, x2, x3, x4, x5, x6, x7, x8, x9, x10, x11, x12, x13, x14, x15, x16, x17, x18, x19, x20, x21, x22, x23, x24, x25, x26, x27, x28, x29, rfl, hi, hg, rfl⟩
    repeat refine LS.seq ?_
    refine LS.region rfl ?_
    refine OS.pure rfl (fun _ => rfl) rfl ?_
    refine OS.pure rfl (fun _ => rfl) rfl ?_
    refine OS.pure rfl (fun _ => rfl) rfl ?_
    refine OS.pure rfl (fun _ => rfl) rfl ?_
    refine OS.nil ?_
    repeat refine LS.seq ?_
    refine LS.cond rfl (fun hc => ?_) (fun hc => ?_)
    · have hc : (i : Int) < s.length := lt_of hc
      have hin : i < s.length := by omega
      refine LS.skip ?_
      repeat refine LS.seq ?_
      refine LS.block ?_
      repeat refine LS.seq ?_
      refine LS.region rfl ?_
      refine OS.pure rfl (fun _ => rfl) rfl ?_
      refine OS.pure rfl (fun _ => rfl) rfl ?_
      refine OS.pure rfl (fun _ => rfl) rfl ?_
      refine OS.pure rfl (e_byte rfl rfl rfl rfl (List.getElem?_eq_getElem hin)) rfl ?_
      refine OS.fresh rfl (e_new (fun _ => rfl) rfl) (fun _ => rfl) (fun r2 => ?_)
      refine OS.fresh rfl (e_appendGV [_] (m := 1) (sz := 1) (bts := 1) hg (SV.row (sz := 1) (n := 1) (List.mem_cons_self ..) rfl) (by omega) rfl rfl rfl rfl (by omega) (by omega)) (fun _ => rfl) (fun r3 => ?_)
      refine OS.pure rfl (fun _ => rfl) rfl ?_
      refine OS.sub (Sub.drop 1 rfl) ?_
      refine OS.nil ?_
      repeat refine LS.seq ?_
      refine LS.region rfl ?_
      refine OS.pure rfl (fun _ => rfl) rfl ?_
      refine OS.pure rfl (e_add rfl rfl rfl (in_i64 (by omega) (by omega))) rfl ?_
      refine OS.pure rfl (fun _ => rfl) rfl ?_
      refine OS.nil ?_
      refine ⟨s.length - (i + 1), by omega, i + 1, _, _, _, _, _, _, _, _, _, _, _, _, _, _, _, _, _, _, _, _, _, _, _, _, _, _, _, _, _, _, rfl, by omega, ?_, rfl⟩
      have : bs ++ s.take (i + 1) = bs ++ s.take i ++ [s[i]'hin] := by rw [List.take_add_one, List.getElem?_eq_getElem hin]; simp
      rw [this, byteCells_append]
      refine GV.of ?_; simp [byteCells]; omega
    · have hc : (s.length : Int) ≤ i := nlt_of hc
      have hin : i = s.length := by omega
      rw [hin, List.take_of_length_le (by omega)] at hg
      refine LS.exit ?_
      repeat refine LS.seq ?_
      refine LS.region rfl ?_
      refine OS.pure rfl (fun _ => rfl) rfl ?_
      refine OS.pure rfl (fun _ => rfl) rfl ?_
      refine OS.nil ?_
      refine LS.ret ⟨_, fun _ _ => rfl, ?_⟩
      exact hg
theorem rCount_ct {L : RL} {b : Value} {bs : List UInt8} {n : Nat} (m : Int) (hb : SV 1 L b n (byteCells bs)) (hn : n ≤ 400000000000) :
    CS Try.prog 49 [b, .int .i64 m] L fun v L' => GV 5 1 L v (n + (cnt m).length) (byteCells (bs ++ cnt m)) L' := by
  refine CS.mk (fn := Try.f49) rfl rfl rfl rfl ?_
  repeat refine LS.seq ?_
  refine LS.region rfl ?_
  refine OS.pure rfl (fun _ => rfl) rfl ?_
  refine OS.nil ?_
  by_cases hm : m < 0
  · have hc : cnt m = [] := by unfold cnt; rw [if_neg (by omega)]
    have hb0 : (!ileB 0 m) = true := by rw [ileB_eq]; simp; omega
    repeat refine LS.seq ?_
    refine LS.region rfl ?_
    refine OS.pure rfl (fun _ => rfl) rfl ?_
    refine OS.pure rfl (e_is (fun _ => rfl) (congrArg Value.bool hb0)) rfl ?_
    refine OS.pure rfl (fun _ => rfl) rfl ?_
    refine OS.skip rfl rfl ?_
    refine OS.skip rfl rfl ?_
    refine OS.pure rfl (fun _ => rfl) rfl ?_
    refine OS.nil ?_
    refine LS.cond rfl (fun h => ?_) (fun h => by cases h)
    repeat refine LS.seq ?_
    refine LS.region rfl ?_
    refine OS.pure rfl (fun _ => rfl) rfl ?_
    refine OS.call noGo rfl (fun _ => rfl) ((behind_ct (s := []) hb hn (by decide)).mono ?_)
    rintro v L' hv
    refine ⟨_, rfl, ?_⟩
    refine OS.pure rfl (fun _ => rfl) rfl ?_
    refine OS.nil ?_
    refine LS.ret ⟨_, fun _ _ => rfl, ?_⟩
    rw [hc]; exact hv
  · have hb0 : (!ileB 0 m) = false := by rw [ileB_eq]; simp; omega
    repeat refine LS.seq ?_
    refine LS.region rfl ?_
    refine OS.pure rfl (fun _ => rfl) rfl ?_
    refine OS.pure rfl (e_is (fun _ => rfl) (congrArg Value.bool hb0)) rfl ?_
    refine OS.pure rfl (fun _ => rfl) rfl ?_
    refine OS.pure rfl (fun _ => rfl) rfl ?_
    refine OS.pure rfl (fun _ => rfl) rfl ?_
    refine OS.pure rfl (fun _ => rfl) rfl ?_
    refine OS.nil ?_
    refine LS.cond (b := !ileB m 2147483647) rfl (fun h => ?_) (fun h => ?_)
    · have h := lt_of h
      have hc : cnt m = [] := by unfold cnt; rw [if_neg (by omega)]
      repeat refine LS.seq ?_
      refine LS.region rfl ?_
      refine OS.pure rfl (fun _ => rfl) rfl ?_
      refine OS.call noGo rfl (fun _ => rfl) ((behind_ct (s := []) hb hn (by decide)).mono ?_)
      rintro v L' hv
      refine ⟨_, rfl, ?_⟩
      refine OS.pure rfl (fun _ => rfl) rfl ?_
      refine OS.nil ?_
      refine LS.ret ⟨_, fun _ _ => rfl, ?_⟩
      rw [hc]; exact hv
    · have h := nlt_of h
      obtain ⟨k, rfl⟩ := Int.eq_ofNat_of_zero_le (show 0 ≤ m by omega)
      have hc : cnt (k : Int) = grp k := by unfold cnt; rw [if_pos (by omega)]; rfl
      have hg : (grp k).length ≤ 10 := grp_len (by omega) (by omega)
      refine LS.skip ?_
      repeat refine LS.seq ?_
      refine LS.region rfl ?_
      refine OS.pure rfl (fun _ => rfl) rfl ?_
      refine OS.pure rfl (fun _ => rfl) rfl ?_
      refine OS.pure rfl (e_conv rfl rfl rfl rfl (in_u64 (by omega) (by omega))) rfl ?_
      refine OS.call noGo rfl (fun _ => rfl) ((groups_ct k (by omega)).mono ?_)
      rintro v L' ⟨rfl, rfl⟩
      refine ⟨_, rfl, ?_⟩
      refine OS.call noGo rfl (fun _ => rfl) ((behind_ct hb hn (by omega)).mono ?_)
      rintro v L' hv
      refine ⟨_, rfl, ?_⟩
      refine OS.pure rfl (fun _ => rfl) rfl ?_
      refine OS.nil ?_
      refine LS.ret ⟨_, fun _ _ => rfl, ?_⟩
      rw [hc]; exact hv
/-- What is not named any more. -/
theorem gv_over {e : TypeId} {sz n m : Nat} {F L L' : RL} {v v' : Value} {cs cs' : List Value} (g : GV e sz F v n cs L) (g' : GV e sz L v' m cs' L') : ∃ L'', Sub L'' L' ∧ GV e sz F v' m cs' L'' := by
  rcases g with ⟨rfl, rfl, rfl, rfl⟩ | ⟨r, rfl, hl, rfl⟩
  · exact ⟨L', ⟨[], by simp⟩, g'⟩
  · rcases g' with ⟨rfl, rfl, rfl, rfl⟩ | ⟨r', rfl, hl', rfl⟩
    · exact ⟨F, ⟨[(r, .cells e cs)], by simpa using List.perm_append_comm (l₁ := [(r, ARow.cells e cs)]) (l₂ := F)⟩, .inl ⟨rfl, rfl, rfl, rfl⟩⟩
    · exact ⟨(r', .cells e cs') :: F, ⟨[(r, .cells e cs)], by simpa using List.perm_append_comm (l₁ := [(r, ARow.cells e cs)]) (l₂ := F)⟩, GV.of hl'⟩
theorem rStr_ct {L : RL} {b : Value} {bs s : List UInt8} {n : Nat} (hs : s.length ≤ 200000) (hb : SV 1 L b n (byteCells bs)) (hn : n ≤ 300000000000) :
    CS Try.prog 51 [b, .string ⟨⟨s⟩⟩] L fun v L' => GV 5 1 L v (n + ((cnt s.length).length + s.length)) (byteCells (bs ++ (cnt s.length ++ s))) L' := by
  have hg : (cnt s.length).length ≤ 10 := by
    unfold cnt; rw [if_pos (by omega)]; exact grp_len (by omega) (by simp; omega)
  refine CS.mk (fn := Try.f51) rfl rfl rfl rfl ?_
  repeat refine LS.seq ?_
  refine LS.region rfl ?_
  refine OS.pure rfl (fun _ => rfl) rfl ?_
  refine OS.nil ?_
  repeat refine LS.seq ?_
  refine LS.region rfl ?_
  refine OS.pure rfl (fun _ => rfl) rfl ?_
  refine OS.pure rfl (fun _ => rfl) rfl ?_
  refine OS.pure rfl (fun _ => rfl) rfl ?_
  refine OS.call noGo rfl (fun _ => rfl) ((rCount_ct s.length hb (by omega)).mono ?_)
  rintro v L' hv
  refine ⟨_, rfl, ?_⟩
  refine OS.pure rfl (fun _ => rfl) rfl ?_
  refine OS.call noGo rfl (fun _ => rfl) ((behind_ct hv.sv (by omega) (by omega)).mono ?_)
  rintro v' L'' hv'
  obtain ⟨M, hM, hv'⟩ := gv_over hv hv'
  refine ⟨_, rfl, ?_⟩
  refine OS.sub hM ?_
  refine OS.pure rfl (fun _ => rfl) rfl ?_
  refine OS.nil ?_
  refine LS.ret ⟨_, fun _ _ => rfl, ?_⟩
  rw [← Nat.add_assoc, ← List.append_assoc]
  exact hv'
theorem rFlag_ct {L : RL} {b : Value} {bs : List UInt8} {n : Nat} (v : Bool) (hb : SV 1 L b n (byteCells bs)) (hn : n ≤ 400000000000) :
    CS Try.prog 50 [b, .bool v] L fun v' L' => GV 5 1 L v' (n + 1) (byteCells (bs ++ [if v then 1 else 0])) L' := by
  cases v
  · refine CS.mk (fn := Try.f50) rfl rfl rfl rfl ?_
    repeat refine LS.seq ?_
    refine LS.region rfl ?_
    refine OS.pure rfl (fun _ => rfl) rfl ?_
    refine OS.nil ?_
    repeat refine LS.seq ?_
    refine LS.region rfl ?_
    refine OS.pure rfl (fun _ => rfl) rfl ?_
    refine OS.nil ?_
    refine LS.cond rfl (fun h => by cases h) (fun h => ?_)
    refine LS.skip ?_
    repeat refine LS.seq ?_
    refine LS.region rfl ?_
    refine OS.pure rfl (fun _ => rfl) rfl ?_
    refine OS.call noGo rfl (fun _ => rfl) ((behind_ct (s := [0]) hb hn (by decide)).mono ?_)
    rintro v L' hv
    refine ⟨_, rfl, ?_⟩
    refine OS.pure rfl (fun _ => rfl) rfl ?_
    refine OS.nil ?_
    refine LS.ret ⟨_, fun _ _ => rfl, ?_⟩
    exact hv
  · refine CS.mk (fn := Try.f50) rfl rfl rfl rfl ?_
    repeat refine LS.seq ?_
    refine LS.region rfl ?_
    refine OS.pure rfl (fun _ => rfl) rfl ?_
    refine OS.nil ?_
    repeat refine LS.seq ?_
    refine LS.region rfl ?_
    refine OS.pure rfl (fun _ => rfl) rfl ?_
    refine OS.nil ?_
    refine LS.cond rfl (fun h => ?_) (fun h => by cases h)
    repeat refine LS.seq ?_
    refine LS.region rfl ?_
    refine OS.pure rfl (fun _ => rfl) rfl ?_
    refine OS.call noGo rfl (fun _ => rfl) ((behind_ct (s := [1]) hb hn (by decide)).mono ?_)
    rintro v L' hv
    refine ⟨_, rfl, ?_⟩
    refine OS.pure rfl (fun _ => rfl) rfl ?_
    refine OS.nil ?_
    refine LS.ret ⟨_, fun _ _ => rfl, ?_⟩
    exact hv
theorem e_shl {P : Program} {a : Slots} {o : Oper} {t z : TypeId} {x y : Operand} {k k' : IntKind} {m s : Nat} (ho : o.op = .binOp .shl t x y z) (hx : aev a x = some (.int k (m : Int))) (hy : aev a y = some (.int k' (s : Int))) (hs : s ≤ k.bits) (hi : inK k ((m * 2 ^ s : Nat) : Int) = true) : ∀ h, opB P a o h = some (.val (.int k ((m * 2 ^ s : Nat) : Int)) h) := by
  intro h
  have h0 : ileB 0 (s : Int) = true := ileB_iff.2 (by omega)
  have h1 : (m : Int) * ((2 ^ (min s k.bits) : Nat) : Int) = ((m * 2 ^ s : Nat) : Int) := by rw [Nat.min_eq_left hs]; simp
  simp only [opB, ho, hx, hy, eqOk, binB, h0, Int.toNat_natCast, h1, wrap_in hi, ret]
theorem e_or {P : Program} {a : Slots} {o : Oper} {t z : TypeId} {x y : Operand} {m n : Nat} (ho : o.op = .binOp .or t x y z) (hx : aev a x = some (.int .u64 (m : Int))) (hy : aev a y = some (.int .u64 (n : Int))) (hm : m < 18446744073709551616) (hn : n < 18446744073709551616) : ∀ h, opB P a o h = some (.val (.int .u64 ((m ||| n : Nat) : Int)) h) := by
  intro h
  have hb : ∀ m : Nat, m < 18446744073709551616 → bitsB .u64 (m : Int) = m := fun m hm => by
    unfold bitsB
    have : (ileB 0 (m : Int) && ileB (m : Int) (mostB .u64)) = true := by
      rw [Bool.and_eq_true, ileB_iff, ileB_iff]; exact ⟨by omega, by simp [mostB]; omega⟩
    rw [this]; simp
  have hor : m ||| n < 18446744073709551616 := Nat.or_lt_two_pow (n := 64) hm hn
  have hi : inK .u64 ((m ||| n : Nat) : Int) = true := in_u64 (by omega) (by omega)
  simp only [opB, ho, hx, hy, eqOk, binB, if_true, hb m hm, hb n hn, wrap_in hi, ret]
theorem digit_le {i c : Nat} (hi : i ≤ 9) (h9 : i = 9 → c ≤ 1) : c % 128 * 128 ^ i ≤ 9223372036854775808 := by
  by_cases h : i = 9
  · subst h
    have := h9 rfl
    have h1 : c % 128 ≤ 1 := by omega
    have e : (128 : Nat) ^ 9 = 9223372036854775808 := pow9
    rw [e]
    calc c % 128 * 9223372036854775808 ≤ 1 * 9223372036854775808 := Nat.mul_le_mul_right _ h1
      _ = _ := by omega
  · have h8 : 128 ^ i ≤ 128 ^ 8 := Nat.pow_le_pow_right (by omega) (by omega)
    have e : (128 : Nat) ^ 8 = 72057594037927936 := by decide
    rw [e] at h8
    have : c % 128 * 128 ^ i ≤ 127 * 72057594037927936 := Nat.mul_le_mul (by omega) h8
    omega
theorem or_digit {u d i : Nat} (h : u < 128 ^ i) : (u ||| d * 2 ^ (7 * i)) = u + d * 128 ^ i := by
  have e : (2 : Nat) ^ (7 * i) = 128 ^ i := by rw [Nat.pow_mul]
  rw [← e] at h ⊢
  rw [Nat.or_comm, Nat.mul_comm, ← Nat.two_pow_add_eq_or_of_lt h]
  omega
/-- Bytes in a row of the machine's own, which may be read and cut. -/
def OV (L : RL) (v : Value) (bs : List UInt8) : Prop := (v = .slice none 0 0 ∧ bs = []) ∨ ∃ r off C, v = .slice (some ⟨r, off, none⟩) bs.length openCap ∧ (r, .cells 5 C) ∈ L ∧ cut C off bs.length = some (byteCells bs)
theorem OV.sv {L : RL} {v : Value} {bs : List UInt8} (h : OV L v bs) : SV 1 L v bs.length (byteCells bs) := by
  rcases h with ⟨rfl, rfl⟩ | ⟨r, off, C, rfl, hm, hc⟩
  · exact .inl ⟨rfl, rfl, rfl⟩
  · exact .inr ⟨r, off, openCap, _, C, rfl, hm, rfl, by rw [Nat.mul_one]; exact hc⟩
theorem OV.mono {L L' : RL} {v : Value} {bs : List UInt8} (h : OV L v bs) (hm : ∀ p, p ∈ L → p ∈ L') : OV L' v bs := by
  rcases h with h | ⟨r, off, C, h1, h2, h3⟩
  · exact .inl h
  · exact .inr ⟨r, off, C, h1, hm _ h2, h3⟩
theorem OV.cons {L : RL} {x : Nat × ARow} {v : Value} {bs : List UInt8} (h : OV L v bs) : OV (x :: L) v bs := h.mono fun _ hp => List.mem_cons_of_mem _ hp
theorem OS.cutB {P : Program} {ops rest : List Oper} {o : Oper} {a : Slots} {L : RL} {K : Slots → RL → Prop} {t : TypeId} {x : Operand} {lo hi : Option Operand} {lo' hi' : Option Value} {v : Value} {l u : Nat} {bs : List UInt8} (hs : OV L v bs) (hw : wantedB ops o a = true) (ho : o.op = .slice t x lo hi none) (hx : aev a x = some v)
    (hlo : optEv a lo = some lo') (hhi : optEv a hi = some hi') (bl : boundB lo' 0 = some l) (bu : boundB hi' bs.length = some u) (ht : P.underlying t = some (.slice 5)) (hz : sizeB P 5 = some 1) (hu : u ≤ bs.length) (hl : l ≤ u)
    (hk : ∀ v', OV L v' ((bs.drop l).take (u - l)) → ∃ a₁, putAt a o.dst v' = some a₁ ∧ OS P ops rest a₁ L K) : OS P ops (o :: rest) a L K := by
  have hlen : ((bs.drop l).take (u - l)).length = u - l := by simp; omega
  rcases hs with ⟨rfl, rfl⟩ | ⟨r, off, C, rfl, hm, hc⟩
  · have hu0 : u = 0 := by simpa using hu
    subst hu0
    have hl0 : l = 0 := by omega
    subst hl0
    obtain ⟨a₁, ep, k⟩ := hk (.slice none 0 0) (.inl ⟨rfl, by simp⟩)
    refine OS.pure hw (fun h => ?_) ep k
    have hm' : optEv a none = some none := rfl
    have hcb : Nat.beq 0 openCap = false := beq_false (by decide)
    have h1 : Nat.ble 0 (farB 0 0) = true := rfl
    have h2 : Nat.ble 0 0 = true := rfl
    have h3 : rowOk h 5 none 0 = true := by unfold rowOk; rw [hcb]; rfl
    have bu' : boundB hi' 0 = some 0 := bu
    simp only [opB, ho, hx, hlo, hhi, hm', sliceB, ht, bu', bl, hz, h1, h2, h3, Bool.true_and, moved, hcb, ret]
  · have hcut : cut C (off + l * 1) (u - l) = some (byteCells ((bs.drop l).take (u - l))) := by
      rw [Nat.mul_one]
      exact cut_cut hc (by rw [cut_bytes (by omega)])
    obtain ⟨a₁, ep, k⟩ := hk (.slice (some ⟨r, off + l * 1, none⟩) (u - l) openCap) (.inr ⟨r, _, C, by rw [hlen], hm, by rw [hlen]; exact hcut⟩)
    obtain ⟨i, hi⟩ := List.mem_iff_getElem?.1 hm
    exact OS.read hw (e_slice i ho hx hlo hhi bl bu ht hz hu hl hi) ep k
theorem e_min {P : Program} {a : Slots} {o : Oper} {c : Call} {k : IntKind} {x y : Int} (ho : o.op = .call c) (hc : c.callee = .builtin .min) (ha : evs a c.args.toList = some [.int k x, .int k y]) : ∀ h, opB P a o h = some (.val (.int k (min x y)) h) := by
  intro h
  by_cases hxy : x ≤ y
  · have : ileB x y = true := ileB_iff.2 hxy
    simp only [opB, ho, ha, callOpB, hc, minB, if_true, this, ret]
    rw [show min x y = x by omega]
  · have : ileB x y = false := by rw [ileB_eq]; simpa using hxy
    simp only [opB, ho, ha, callOpB, hc, minB, if_true, this, ret]
    rw [show min x y = y by omega]
theorem groupsAt_ct {L : RL} {b : Value} {bs : List UInt8} {n : Nat} (hb : SV 1 L b n (byteCells bs)) (hn : n ≤ 9223372036854775807) :
    CS Try.prog 85 [b] L fun v L' => v = .tuple #[.int .u64 ((gat bs).1 : Nat), .int .i64 ((gat bs).2 : Nat)] ∧ L' = L := by
  have hl : bs.length = n := by have := hb.len; simpa [byteCells] using this
  refine CS.mk (fn := Try.f85) rfl rfl rfl rfl ?_
  repeat refine LS.seq ?_
  refine LS.region rfl ?_
  refine OS.pure rfl (fun _ => rfl) rfl ?_
  refine OS.pure rfl (fun _ => rfl) rfl ?_
  refine OS.nil ?_
  repeat refine LS.seq ?_
  refine LS.region rfl ?_
  refine OS.pure rfl (fun _ => rfl) rfl ?_
  refine OS.nil ?_
  repeat refine LS.seq ?_
  refine LS.region rfl ?_
  refine OS.pure rfl (fun _ => rfl) rfl ?_
  refine OS.pure rfl (e_len hb rfl rfl rfl rfl rfl) rfl ?_
  refine OS.pure rfl (fun _ => rfl) rfl ?_
  refine OS.nil ?_
  repeat refine LS.seq ?_
  refine LS.block ?_
  refine LS.loopJ [4, 7, 8, 9] (fun q a L' => ∃ j u, q = n - j ∧ j ≤ n ∧ j ≤ 9 ∧ u < 128 ^ j ∧ gGo j u (bs.drop j) = gat bs ∧ L' = L ∧ a = [.chan none, .chan none, .chan none, .chan none, .int .u64 (u : Nat), .chan none, .chan none, b, .int .i64 (n : Nat), .int .i64 (j : Nat), .chan none, .chan none, .chan none, .chan none, .chan none, .chan none, .chan none, .chan none, .chan none, .chan none, .chan none, .chan none, .chan none, .chan none, .chan none, .chan none, .chan none, .chan none, .chan none, .chan none, .chan none, .chan none, .chan none, .chan none, .chan none, .chan none, .chan none, .chan none, .chan none, .chan none]) (n := n) rfl ⟨0, 0, rfl, by omega, by omega, by simp, rfl, rfl, rfl⟩ ?_
  rintro q a L' ⟨j, u, rfl, hj, hj9, hu, hg, rfl, rfl⟩
  have hu9 : u < 9223372036854775808 := by
    have : 128 ^ j ≤ 128 ^ 9 := Nat.pow_le_pow_right (by omega) hj9
    rw [pow9] at this; omega
  repeat refine LS.seq ?_
  refine LS.region rfl ?_
  refine OS.pure rfl (fun _ => rfl) rfl ?_
  refine OS.nil ?_
  repeat refine LS.seq ?_
  refine LS.cond rfl (fun hc => ?_) (fun hc => ?_)
  · have hc := lt_of hc
    have hjn : j < bs.length := by omega
    have hcb : bs[j].toNat < 256 := bs[j].toNat_lt
    have hd : bs.drop j = bs[j] :: bs.drop (j + 1) := List.drop_eq_getElem_cons hjn
    rw [hd] at hg
    unfold gGo at hg
    refine LS.skip ?_
    repeat refine LS.seq ?_
    refine LS.block ?_
    repeat refine LS.seq ?_
    refine LS.region rfl ?_
    refine OS.pure rfl (fun _ => rfl) rfl ?_
    refine OS.at1 (j := j) hb (byteCells_get (List.getElem?_eq_getElem hjn)) rfl rfl rfl rfl rfl rfl (fun r0 o0 row0 cs0 m0 c0 g0 => ?_)
    refine ⟨_, rfl, ?_⟩
    refine OS.read rfl (e_loadm m0 c0 rfl rfl (part_one rfl g0)) rfl ?_
    refine OS.pure rfl (fun _ => rfl) rfl ?_
    refine OS.pure rfl (fun _ => rfl) rfl ?_
    refine OS.nil ?_
    by_cases h9 : j = 9 ∧ 1 < bs[j].toNat
    · rw [if_pos h9] at hg
      have hb1 : ieqB (j : Int) 9 = true := by rw [ieqB_eq]; simp; omega
      have hb2 : (!ileB (bs[j].toNat : Int) 1) = true := by rw [ileB_eq]; simp; omega
      repeat refine LS.seq ?_
      refine LS.region rfl ?_
      refine OS.pure rfl (fun _ => rfl) rfl ?_
      refine OS.pure rfl (e_is (fun _ => rfl) (congrArg Value.bool hb1)) rfl ?_
      refine OS.pure rfl (fun _ => rfl) rfl ?_
      refine OS.pure rfl (fun _ => rfl) rfl ?_
      refine OS.pure rfl (e_is (fun _ => rfl) (congrArg Value.bool hb2)) rfl ?_
      refine OS.pure rfl (fun _ => rfl) rfl ?_
      refine OS.nil ?_
      refine LS.cond rfl (fun hc => ?_) (fun hc => by cases hc)
      repeat refine LS.seq ?_
      refine LS.region rfl ?_
      refine OS.pure rfl (fun _ => rfl) rfl ?_
      refine OS.pure rfl (fun _ => rfl) rfl ?_
      refine OS.nil ?_
      refine LS.ret ⟨_, fun _ _ => rfl, ?_⟩
      rw [← hg]; exact ⟨rfl, rfl⟩
    rw [if_neg h9] at hg
    have hdig : bs[j].toNat % 128 * 128 ^ j ≤ 9223372036854775808 := digit_le hj9 (fun h => by omega)
    have he : (2 : Nat) ^ (7 * j) = 128 ^ j := by rw [Nat.pow_mul]
    have hdig2 : bs[j].toNat % 128 * 2 ^ (7 * j) ≤ 9223372036854775808 := by rw [he]; exact hdig
    refine LS.seq ?_
    refine LS.mid [4, 5, 6, 7, 8, 9] (fun a L2 => L2 = L' ∧ a = [.chan none, .chan none, .chan none, .chan none, .int .u64 (u : Nat), .int .i64 (j : Nat), .int .u8 (bs[j].toNat : Nat), b, .int .i64 (n : Nat), .int .i64 (j : Nat), .chan none, .chan none, .chan none, .chan none, .chan none, .chan none, .chan none, .chan none, .chan none, .chan none, .chan none, .chan none, .chan none, .chan none, .chan none, .chan none, .chan none, .chan none, .chan none, .chan none, .chan none, .chan none, .chan none, .chan none, .chan none, .chan none, .chan none, .chan none, .chan none, .chan none]) ?_ ?_
    · by_cases h9' : j = 9
      · have hb1 : ieqB (j : Int) 9 = true := by rw [ieqB_eq]; simp; omega
        have hb2 : (!ileB (bs[j].toNat : Int) 1) = false := by rw [ileB_eq]; simp; omega
        repeat refine LS.seq ?_
        refine LS.region rfl ?_
        refine OS.pure rfl (fun _ => rfl) rfl ?_
        refine OS.pure rfl (e_is (fun _ => rfl) (congrArg Value.bool hb1)) rfl ?_
        refine OS.pure rfl (fun _ => rfl) rfl ?_
        refine OS.pure rfl (fun _ => rfl) rfl ?_
        refine OS.pure rfl (e_is (fun _ => rfl) (congrArg Value.bool hb2)) rfl ?_
        refine OS.pure rfl (fun _ => rfl) rfl ?_
        refine OS.nil ?_
        refine LS.cond rfl (fun hc => by cases hc) (fun hc => ?_)
        refine LS.skip ?_
        exact ⟨rfl, rfl⟩
      · have hb1 : ieqB (j : Int) 9 = false := by rw [ieqB_eq]; simp; omega
        repeat refine LS.seq ?_
        refine LS.region rfl ?_
        refine OS.pure rfl (fun _ => rfl) rfl ?_
        refine OS.pure rfl (e_is (fun _ => rfl) (congrArg Value.bool hb1)) rfl ?_
        refine OS.pure rfl (fun _ => rfl) rfl ?_
        refine OS.skip rfl rfl ?_
        refine OS.skip rfl rfl ?_
        refine OS.pure rfl (fun _ => rfl) rfl ?_
        refine OS.nil ?_
        refine LS.cond rfl (fun hc => by cases hc) (fun hc => ?_)
        refine LS.skip ?_
        exact ⟨rfl, rfl⟩
    rintro a L' ⟨rfl, rfl⟩
    have hor : (u ||| bs[j].toNat % 128 * 2 ^ (7 * j)) = u + bs[j].toNat % 128 * 128 ^ j := or_digit hu
    repeat refine LS.seq ?_
    refine LS.region rfl ?_
    refine OS.pure rfl (fun _ => rfl) rfl ?_
    refine OS.pure rfl (fun _ => rfl) rfl ?_
    refine OS.pure rfl (e_rem (n := 128) rfl rfl rfl (by decide)) rfl ?_
    refine OS.pure rfl (e_conv rfl rfl rfl rfl (in_u64 (by omega) (by omega))) rfl ?_
    refine OS.pure rfl (fun _ => rfl) rfl ?_
    refine OS.pure rfl (e_is (e_mul (m := 7) (n := j) rfl rfl rfl (in_i64 (by omega) (by omega))) (congrArg (Value.int .i64) (show (7 : Int) * (j : Int) = ((7 * j : Nat) : Int) by omega))) rfl ?_
    refine OS.pure rfl (e_shl (s := 7 * j) rfl rfl rfl (by simp [IntKind.bits]; omega) (in_u64 (by omega) (by omega))) rfl ?_
    refine OS.pure rfl (e_is (e_or rfl rfl rfl (by omega) (by omega)) (congrArg (fun x : Nat => Value.int .u64 (x : Int)) hor)) rfl ?_
    refine OS.pure rfl (fun _ => rfl) rfl ?_
    refine OS.nil ?_
    refine LS.seq ?_
    by_cases h128 : 128 ≤ bs[j].toNat
    · rw [if_pos h128] at hg
      have hb1 : ileB 128 (bs[j].toNat : Int) = true := ileB_iff.2 (by omega)
      repeat refine LS.seq ?_
      refine LS.region rfl ?_
      refine OS.pure rfl (fun _ => rfl) rfl ?_
      refine OS.pure rfl (e_is (fun _ => rfl) (congrArg Value.bool hb1)) rfl ?_
      refine OS.nil ?_
      refine LS.cond rfl (fun hc => ?_) (fun hc => by cases hc)
      refine LS.exit ?_
      repeat refine LS.seq ?_
      refine LS.region rfl ?_
      refine OS.pure rfl (e_add rfl rfl rfl (in_i64 (by omega) (by omega))) rfl ?_
      refine OS.pure rfl (fun _ => rfl) rfl ?_
      refine OS.nil ?_
      have hj8 : j ≠ 9 := fun h => h9 ⟨h, by omega⟩
      refine ⟨n - (j + 1), by omega, j + 1, _, rfl, by omega, by omega, ?_, hg, rfl, rfl⟩
      have hpow : 128 ^ (j + 1) = 128 ^ j * 128 := Nat.pow_succ ..
      have : bs[j].toNat % 128 * 128 ^ j ≤ 127 * 128 ^ j := Nat.mul_le_mul_right _ (by omega)
      omega
    rw [if_neg h128] at hg
    have hb1 : ileB 128 (bs[j].toNat : Int) = false := by rw [ileB_eq]; simp; omega
    repeat refine LS.seq ?_
    refine LS.region rfl ?_
    refine OS.pure rfl (fun _ => rfl) rfl ?_
    refine OS.pure rfl (e_is (fun _ => rfl) (congrArg Value.bool hb1)) rfl ?_
    refine OS.nil ?_
    refine LS.cond rfl (fun hc => by cases hc) (fun hc => ?_)
    refine LS.skip ?_
    by_cases h0 : bs[j].toNat = 0 ∧ 0 < j
    · rw [if_pos h0] at hg
      have hb2 : ieqB (bs[j].toNat : Int) 0 = true := by rw [ieqB_eq]; simp; omega
      have hb3 : (!ileB (j : Int) 0) = true := by rw [ileB_eq]; simp; omega
      repeat refine LS.seq ?_
      refine LS.region rfl ?_
      refine OS.pure rfl (fun _ => rfl) rfl ?_
      refine OS.pure rfl (e_is (fun _ => rfl) (congrArg Value.bool hb2)) rfl ?_
      refine OS.pure rfl (fun _ => rfl) rfl ?_
      refine OS.pure rfl (fun _ => rfl) rfl ?_
      refine OS.pure rfl (e_is (fun _ => rfl) (congrArg Value.bool hb3)) rfl ?_
      refine OS.pure rfl (fun _ => rfl) rfl ?_
      refine OS.nil ?_
      refine LS.cond rfl (fun hc => ?_) (fun hc => by cases hc)
      repeat refine LS.seq ?_
      refine LS.region rfl ?_
      refine OS.pure rfl (fun _ => rfl) rfl ?_
      refine OS.pure rfl (fun _ => rfl) rfl ?_
      refine OS.nil ?_
      refine LS.ret ⟨_, fun _ _ => rfl, ?_⟩
      rw [← hg]; exact ⟨rfl, rfl⟩
    rw [if_neg h0] at hg
    refine LS.seq ?_
    refine LS.mid [4, 5] (fun a L2 => L2 = L' ∧ a = [.chan none, .chan none, .chan none, .chan none, .int .u64 (u + bs[j].toNat % 128 * 128 ^ j : Nat), .int .i64 (j : Nat), .chan none, .chan none, .chan none, .chan none, .chan none, .chan none, .chan none, .chan none, .chan none, .chan none, .chan none, .chan none, .chan none, .chan none, .chan none, .chan none, .chan none, .chan none, .chan none, .chan none, .chan none, .chan none, .chan none, .chan none, .chan none, .chan none, .chan none, .chan none, .chan none, .chan none, .chan none, .chan none, .chan none, .chan none]) ?_ ?_
    · by_cases hz : bs[j].toNat = 0
      · have hb2 : ieqB (bs[j].toNat : Int) 0 = true := by rw [ieqB_eq]; simp; omega
        have hb3 : (!ileB (j : Int) 0) = false := by rw [ileB_eq]; simp; omega
        repeat refine LS.seq ?_
        refine LS.region rfl ?_
        refine OS.pure rfl (fun _ => rfl) rfl ?_
        refine OS.pure rfl (e_is (fun _ => rfl) (congrArg Value.bool hb2)) rfl ?_
        refine OS.pure rfl (fun _ => rfl) rfl ?_
        refine OS.pure rfl (fun _ => rfl) rfl ?_
        refine OS.pure rfl (e_is (fun _ => rfl) (congrArg Value.bool hb3)) rfl ?_
        refine OS.pure rfl (fun _ => rfl) rfl ?_
        refine OS.nil ?_
        refine LS.cond rfl (fun hc => by cases hc) (fun hc => ?_)
        refine LS.skip ?_
        exact ⟨rfl, rfl⟩
      · have hb2 : ieqB (bs[j].toNat : Int) 0 = false := by rw [ieqB_eq]; simp; omega
        repeat refine LS.seq ?_
        refine LS.region rfl ?_
        refine OS.pure rfl (fun _ => rfl) rfl ?_
        refine OS.pure rfl (e_is (fun _ => rfl) (congrArg Value.bool hb2)) rfl ?_
        refine OS.pure rfl (fun _ => rfl) rfl ?_
        refine OS.skip rfl rfl ?_
        refine OS.skip rfl rfl ?_
        refine OS.pure rfl (fun _ => rfl) rfl ?_
        refine OS.nil ?_
        refine LS.cond rfl (fun hc => by cases hc) (fun hc => ?_)
        refine LS.skip ?_
        exact ⟨rfl, rfl⟩
    rintro a L' ⟨rfl, rfl⟩
    repeat refine LS.seq ?_
    refine LS.region rfl ?_
    refine OS.pure rfl (fun _ => rfl) rfl ?_
    refine OS.pure rfl (fun _ => rfl) rfl ?_
    refine OS.pure rfl (e_add rfl rfl rfl (in_i64 (by omega) (by omega))) rfl ?_
    refine OS.pure rfl (fun _ => rfl) rfl ?_
    refine OS.pure rfl (fun _ => rfl) rfl ?_
    refine OS.nil ?_
    refine LS.ret ⟨_, fun _ _ => rfl, ?_⟩
    rw [← hg]; exact ⟨rfl, rfl⟩
  · have hc := nlt_of hc
    have hjn : j = n := by omega
    have hd : bs.drop j = [] := List.drop_eq_nil_of_le (by omega)
    rw [hd] at hg
    refine LS.exit ?_
    repeat refine LS.seq ?_
    refine LS.region rfl ?_
    refine OS.pure rfl (fun _ => rfl) rfl ?_
    refine OS.pure rfl (fun _ => rfl) rfl ?_
    refine OS.nil ?_
    refine LS.ret ⟨_, fun _ _ => rfl, ?_⟩
    rw [← hg]; exact ⟨rfl, rfl⟩
theorem countAt_ct {L : RL} {b : Value} {bs : List UInt8} (most : Int) (h0 : -9223372036854775808 ≤ most) (h1 : most ≤ 9223372036854775807) (hb : OV L b bs) (hn : bs.length ≤ 9223372036854775807) :
    CS Try.prog 77 [b, .int .i64 most] L fun v L' => v = .tuple #[.int .i64 ((cAt bs most).1 : Nat), .int .i64 ((cAt bs most).2 : Nat)] ∧ L' = L := by
  have hg := gat_lt bs
  refine CS.mk (fn := Try.f77) rfl rfl rfl rfl ?_
  repeat refine LS.seq ?_
  refine LS.region rfl ?_
  refine OS.pure rfl (fun _ => rfl) rfl ?_
  refine OS.pure rfl (fun _ => rfl) rfl ?_
  refine OS.nil ?_
  repeat refine LS.seq ?_
  refine LS.region rfl ?_
  refine OS.pure rfl (fun _ => rfl) rfl ?_
  refine OS.call noGo rfl (fun _ => rfl) ((groupsAt_ct hb.sv hn).mono ?_)
  rintro v L' ⟨rfl, rfl⟩
  refine ⟨_, rfl, ?_⟩
  refine OS.pure rfl (fun _ => rfl) rfl ?_
  refine OS.pure rfl (fun _ => rfl) rfl ?_
  refine OS.pure rfl (fun _ => rfl) rfl ?_
  refine OS.pure rfl (fun _ => rfl) rfl ?_
  refine OS.pure rfl (fun _ => rfl) rfl ?_
  refine OS.nil ?_
  by_cases hm : most < 0
  · have hb1 : (!ileB 0 most) = true := by rw [ileB_eq]; simp; omega
    repeat refine LS.seq ?_
    refine LS.region rfl ?_
    refine OS.pure rfl (fun _ => rfl) rfl ?_
    refine OS.pure rfl (e_is (fun _ => rfl) (congrArg Value.bool hb1)) rfl ?_
    refine OS.pure rfl (fun _ => rfl) rfl ?_
    refine OS.skip rfl rfl ?_
    refine OS.skip rfl rfl ?_
    refine OS.skip rfl rfl ?_
    refine OS.skip rfl rfl ?_
    refine OS.skip rfl rfl ?_
    refine OS.pure rfl (fun _ => rfl) rfl ?_
    refine OS.nil ?_
    refine LS.cond rfl (fun hc => ?_) (fun hc => by cases hc)
    repeat refine LS.seq ?_
    refine LS.region rfl ?_
    refine OS.pure rfl (fun _ => rfl) rfl ?_
    refine OS.pure rfl (fun _ => rfl) rfl ?_
    refine OS.nil ?_
    refine LS.ret ⟨_, fun _ _ => rfl, ?_⟩
    rw [cAt_no (.inl hm)]; exact ⟨rfl, rfl⟩
  have hb1 : (!ileB 0 most) = false := by rw [ileB_eq]; simp; omega
  repeat refine LS.seq ?_
  refine LS.region rfl ?_
  refine OS.pure rfl (fun _ => rfl) rfl ?_
  refine OS.pure rfl (e_is (fun _ => rfl) (congrArg Value.bool hb1)) rfl ?_
  refine OS.pure rfl (fun _ => rfl) rfl ?_
  refine OS.pure rfl (fun _ => rfl) rfl ?_
  refine OS.pure rfl (fun _ => rfl) rfl ?_
  refine OS.pure rfl (e_min rfl rfl rfl) rfl ?_
  refine OS.pure rfl (e_conv rfl rfl rfl rfl (in_u64 (by omega) (by omega))) rfl ?_
  refine OS.pure rfl (fun _ => rfl) rfl ?_
  refine OS.pure rfl (fun _ => rfl) rfl ?_
  refine OS.nil ?_
  refine LS.cond (b := !ileB ((gat bs).1 : Int) (min most 2147483647)) rfl (fun hc => ?_) (fun hc => ?_)
  · have hc := lt_of hc
    repeat refine LS.seq ?_
    refine LS.region rfl ?_
    refine OS.pure rfl (fun _ => rfl) rfl ?_
    refine OS.pure rfl (fun _ => rfl) rfl ?_
    refine OS.nil ?_
    refine LS.ret ⟨_, fun _ _ => rfl, ?_⟩
    rw [cAt_no (by omega)]; exact ⟨rfl, rfl⟩
  · have hc := nlt_of hc
    refine LS.skip ?_
    repeat refine LS.seq ?_
    refine LS.region rfl ?_
    refine OS.pure rfl (fun _ => rfl) rfl ?_
    refine OS.pure rfl (e_conv rfl rfl rfl rfl (in_i64 (by omega) (by omega))) rfl ?_
    refine OS.pure rfl (fun _ => rfl) rfl ?_
    refine OS.pure rfl (fun _ => rfl) rfl ?_
    refine OS.pure rfl (fun _ => rfl) rfl ?_
    refine OS.nil ?_
    refine LS.ret ⟨_, fun _ _ => rfl, ?_⟩
    rw [cAt_yes (by omega) (by omega) (by omega)]; exact ⟨rfl, rfl⟩
theorem strAt_ct {L : RL} {b : Value} {bs : List UInt8} (most : Int) (h0 : -9223372036854775808 ≤ most) (h1 : most ≤ 9223372036854775807) (hb : OV L b bs) (hn : bs.length ≤ 9223372036854775807) :
    CS Try.prog 80 [b, .int .i64 most] L fun v L' => v = .tuple #[.string ⟨⟨(sAt bs most).1⟩⟩, .int .i64 ((sAt bs most).2 : Nat)] ∧ L' = L := by
  obtain ⟨hc1, hc2, hc3⟩ := cAt_le bs most
  have hse := sAt_eq (bs := bs) (most := most) (m := (cAt bs most).1) (hd := (cAt bs most).2) rfl
  generalize hmm : (cAt bs most).1 = m at *
  generalize hhd : (cAt bs most).2 = hd at *
  refine CS.mk (fn := Try.f80) rfl rfl rfl rfl ?_
  repeat refine LS.seq ?_
  refine LS.region rfl ?_
  refine OS.pure rfl (fun _ => rfl) rfl ?_
  refine OS.pure rfl (fun _ => rfl) rfl ?_
  refine OS.nil ?_
  repeat refine LS.seq ?_
  refine LS.region rfl ?_
  refine OS.pure rfl (fun _ => rfl) rfl ?_
  refine OS.pure rfl (fun _ => rfl) rfl ?_
  refine OS.call noGo rfl (fun _ => rfl) ((countAt_ct most h0 h1 hb hn).mono ?_)
  rintro v L' ⟨rfl, rfl⟩
  rw [hmm, hhd]
  refine ⟨_, rfl, ?_⟩
  refine OS.pure rfl (fun _ => rfl) rfl ?_
  refine OS.pure rfl (fun _ => rfl) rfl ?_
  refine OS.pure rfl (fun _ => rfl) rfl ?_
  refine OS.pure rfl (fun _ => rfl) rfl ?_
  refine OS.pure rfl (fun _ => rfl) rfl ?_
  refine OS.nil ?_
  by_cases hz : hd = 0
  · have hb1 : ieqB (hd : Int) 0 = true := by rw [ieqB_eq]; simp; omega
    repeat refine LS.seq ?_
    refine LS.region rfl ?_
    refine OS.pure rfl (fun _ => rfl) rfl ?_
    refine OS.pure rfl (e_is (fun _ => rfl) (congrArg Value.bool hb1)) rfl ?_
    refine OS.pure rfl (fun _ => rfl) rfl ?_
    refine OS.skip rfl rfl ?_
    refine OS.skip rfl rfl ?_
    refine OS.skip rfl rfl ?_
    refine OS.skip rfl rfl ?_
    refine OS.skip rfl rfl ?_
    refine OS.skip rfl rfl ?_
    refine OS.pure rfl (fun _ => rfl) rfl ?_
    refine OS.nil ?_
    refine LS.cond rfl (fun hc => ?_) (fun hc => by cases hc)
    repeat refine LS.seq ?_
    refine LS.region rfl ?_
    refine OS.pure rfl (fun _ => rfl) rfl ?_
    refine OS.pure rfl (fun _ => rfl) rfl ?_
    refine OS.nil ?_
    refine LS.ret ⟨_, fun _ _ => rfl, ?_⟩
    rw [hse, if_pos (.inl hz)]; exact ⟨rfl, rfl⟩
  have hb1 : ieqB (hd : Int) 0 = false := by rw [ieqB_eq]; simp; omega
  repeat refine LS.seq ?_
  refine LS.region rfl ?_
  refine OS.pure rfl (fun _ => rfl) rfl ?_
  refine OS.pure rfl (e_is (fun _ => rfl) (congrArg Value.bool hb1)) rfl ?_
  refine OS.pure rfl (fun _ => rfl) rfl ?_
  refine OS.pure rfl (fun _ => rfl) rfl ?_
  refine OS.pure rfl (fun _ => rfl) rfl ?_
  refine OS.pure rfl (e_len hb.sv rfl rfl rfl rfl rfl) rfl ?_
  refine OS.pure rfl (fun _ => rfl) rfl ?_
  refine OS.pure rfl (e_sub (m := (bs.length : Nat)) (n := (hd : Nat)) rfl rfl rfl (in_i64 (by omega) (by omega))) rfl ?_
  refine OS.pure rfl (fun _ => rfl) rfl ?_
  refine OS.pure rfl (fun _ => rfl) rfl ?_
  refine OS.nil ?_
  refine LS.cond (b := !ileB (m : Int) ((bs.length : Int) - hd)) rfl (fun hc => ?_) (fun hc => ?_)
  · have hc := lt_of hc
    repeat refine LS.seq ?_
    refine LS.region rfl ?_
    refine OS.pure rfl (fun _ => rfl) rfl ?_
    refine OS.pure rfl (fun _ => rfl) rfl ?_
    refine OS.nil ?_
    refine LS.ret ⟨_, fun _ _ => rfl, ?_⟩
    rw [hse, if_pos (.inr (by omega))]; exact ⟨rfl, rfl⟩
  · have hc := nlt_of hc
    refine LS.skip ?_
    repeat refine LS.seq ?_
    refine LS.region rfl ?_
    refine OS.pure rfl (fun _ => rfl) rfl ?_
    refine OS.pure rfl (fun _ => rfl) rfl ?_
    refine OS.pure rfl (fun _ => rfl) rfl ?_
    refine OS.pure rfl (fun _ => rfl) rfl ?_
    refine OS.pure rfl (e_is (e_add (m := (hd : Nat)) (n := (m : Nat)) rfl rfl rfl (in_i64 (by omega) (by omega))) (congrArg (Value.int .i64) (show (hd : Int) + (m : Int) = ((hd + m : Nat) : Int) by omega))) rfl ?_
    refine OS.cutB (l := hd) (u := hd + m) hb rfl rfl rfl rfl rfl bound_nat bound_nat rfl rfl (by omega) (by omega) (fun v' hv' => ?_)
    refine ⟨_, rfl, ?_⟩
    refine OS.read rfl (e_textSV hv'.sv rfl rfl rfl rfl rfl) rfl ?_
    refine OS.pure rfl (fun _ => rfl) rfl ?_
    refine OS.pure rfl (fun _ => rfl) rfl ?_
    refine OS.pure rfl (e_is (e_add (m := (hd : Nat)) (n := (m : Nat)) rfl rfl rfl (in_i64 (by omega) (by omega))) (congrArg (Value.int .i64) (show (hd : Int) + (m : Int) = ((hd + m : Nat) : Int) by omega))) rfl ?_
    refine OS.pure rfl (fun _ => rfl) rfl ?_
    refine OS.pure rfl (fun _ => rfl) rfl ?_
    refine OS.nil ?_
    refine LS.ret ⟨_, fun _ _ => rfl, ?_⟩
    rw [hse, if_neg (by omega)]
    exact ⟨by rw [show hd + m - hd = m by omega]; rfl, rfl⟩
theorem flagAt_ct {L : RL} {b : Value} {bs : List UInt8} (hb : OV L b bs) :
    CS Try.prog 74 [b] L fun v L' => v = .tuple #[.bool (fAt bs).1, .int .i64 ((fAt bs).2 : Nat)] ∧ L' = L := by
  refine CS.mk (fn := Try.f74) rfl rfl rfl rfl ?_
  repeat refine LS.seq ?_
  refine LS.region rfl ?_
  refine OS.pure rfl (fun _ => rfl) rfl ?_
  refine OS.pure rfl (fun _ => rfl) rfl ?_
  refine OS.nil ?_
  cases bs with
  | nil =>
    repeat refine LS.seq ?_
    refine LS.region rfl ?_
    refine OS.pure rfl (fun _ => rfl) rfl ?_
    refine OS.pure rfl (e_len hb.sv rfl rfl rfl rfl rfl) rfl ?_
    refine OS.pure rfl (fun _ => rfl) rfl ?_
    refine OS.pure rfl (fun _ => rfl) rfl ?_
    refine OS.skip rfl rfl ?_
    refine OS.skip rfl rfl ?_
    refine OS.skip rfl rfl ?_
    refine OS.skip rfl rfl ?_
    refine OS.pure rfl (fun _ => rfl) rfl ?_
    refine OS.nil ?_
    refine LS.cond rfl (fun hc => ?_) (fun hc => by cases hc)
    repeat refine LS.seq ?_
    refine LS.region rfl ?_
    refine OS.pure rfl (fun _ => rfl) rfl ?_
    refine OS.pure rfl (fun _ => rfl) rfl ?_
    refine OS.nil ?_
    refine LS.ret ⟨_, fun _ _ => rfl, ?_⟩
    exact ⟨rfl, rfl⟩
  | cons c bs =>
    have hb1 : ieqB (((c :: bs).length : Nat) : Int) 0 = false := by rw [ieqB_eq]; simp; omega
    have hget : (byteCells (c :: bs))[0]? = some (.int .u8 (c.toNat : Int)) := rfl
    repeat refine LS.seq ?_
    refine LS.region rfl ?_
    refine OS.pure rfl (fun _ => rfl) rfl ?_
    refine OS.pure rfl (e_len hb.sv rfl rfl rfl rfl rfl) rfl ?_
    refine OS.pure rfl (e_is (fun _ => rfl) (congrArg Value.bool hb1)) rfl ?_
    refine OS.pure rfl (fun _ => rfl) rfl ?_
    refine OS.pure rfl (fun _ => rfl) rfl ?_
    refine OS.at1 (j := 0) hb.sv hget rfl rfl rfl rfl rfl rfl (fun r0 o0 row0 cs0 m0 c0 g0 => ?_)
    refine ⟨_, rfl, ?_⟩
    refine OS.read rfl (e_loadm m0 c0 rfl rfl (part_one rfl g0)) rfl ?_
    refine OS.pure rfl (fun _ => rfl) rfl ?_
    refine OS.pure rfl (fun _ => rfl) rfl ?_
    refine OS.nil ?_
    refine LS.cond (b := !ileB (c.toNat : Int) 1) rfl (fun hc => ?_) (fun hc => ?_)
    · have hc := lt_of hc
      repeat refine LS.seq ?_
      refine LS.region rfl ?_
      refine OS.pure rfl (fun _ => rfl) rfl ?_
      refine OS.pure rfl (fun _ => rfl) rfl ?_
      refine OS.nil ?_
      refine LS.ret ⟨_, fun _ _ => rfl, ?_⟩
      refine ⟨?_, rfl⟩
      simp only [fAt]
      rw [if_pos (by omega)]; rfl
    · have hc := nlt_of hc
      refine LS.skip ?_
      repeat refine LS.seq ?_
      refine LS.region rfl ?_
      refine OS.pure rfl (fun _ => rfl) rfl ?_
      refine OS.at1 (j := 0) hb.sv hget rfl rfl rfl rfl rfl rfl (fun r0 o0 row0 cs0 m0 c0 g0 => ?_)
      refine ⟨_, rfl, ?_⟩
      refine OS.read rfl (e_loadm m0 c0 rfl rfl (part_one rfl g0)) rfl ?_
      have he : ieqB (c.toNat : Int) 1 = (c == 1) := by
        rw [ieqB_eq]
        by_cases h : c = 1
        · subst h; rfl
        · have : c.toNat ≠ 1 := fun hh => h (UInt8.toNat_inj.1 hh)
          have h1 : ((c.toNat : Int) == 1) = false := by simpa using (show ¬ (c.toNat : Int) = 1 by omega)
          rw [h1]; simp [h]
      refine OS.pure rfl (e_is (fun _ => rfl) (congrArg Value.bool he)) rfl ?_
      refine OS.pure rfl (fun _ => rfl) rfl ?_
      refine OS.pure rfl (fun _ => rfl) rfl ?_
      refine OS.nil ?_
      refine LS.ret ⟨_, fun _ _ => rfl, ?_⟩
      refine ⟨?_, rfl⟩
      simp only [fAt]
      rw [if_neg (by omega)]; rfl
/-- Where a reader stands: what is ahead of it; has it failed? -/
abbrev St := List UInt8 × Bool
/-- A thing is taken off: z, where there is none, else t, of k bytes. -/
def tk {α : Type} (z t : α) (k : Nat) (s : St) : α × St := if s.2 = true then (z, s) else if k = 0 then (z, ([], true)) else (t, (s.1.drop k, false))
theorem tk_failed {α : Type} {z t : α} {k : Nat} {bs : List UInt8} : tk z t k (bs, true) = (z, (bs, true)) := rfl
theorem tk_none {α : Type} {z t : α} {bs : List UInt8} : tk z t 0 (bs, false) = (z, ([], true)) := rfl
theorem tk_some {α : Type} {z t : α} {k : Nat} {bs : List UInt8} (h : k ≠ 0) : tk z t k (bs, false) = (t, (bs.drop k, false)) := by unfold tk; rw [if_neg (by simp), if_neg h]
abbrev txt (s : List UInt8) : Value := .string ⟨⟨s⟩⟩
theorem fAt_len (bs : List UInt8) : (fAt bs).2 ≤ bs.length := by
  cases bs with
  | nil => simp [fAt]
  | cons c bs => simp only [fAt]; split <;> simp
theorem sAt_len (bs : List UInt8) (most : Int) : (sAt bs most).2 ≤ bs.length := by
  unfold sAt
  split
  · simp
  · simp only; omega
/-- A reader's row. -/
abbrev rdRowOf (v : Value) (f : Bool) : ARow := .cells 77 [v, .bool f]
/-- The reader r stands there, ahead of the rows M. -/
def RDR (M : RL) (r : Nat) (s : St) (L : RL) : Prop := ∃ v, L = (r, rdRowOf v s.2) :: M ∧ OV M v s.1
theorem OV.uncons {M : RL} {r : Nat} {e : TypeId} {cs : List Value} {v : Value} {bs : List UInt8} (he : e ≠ 5) (h : OV ((r, .cells e cs) :: M) v bs) : OV M v bs := by
  rcases h with h | ⟨r', off, C, h1, h2, h3⟩
  · exact .inl h
  · refine .inr ⟨r', off, C, h1, ?_, h3⟩
    rcases List.mem_cons.1 h2 with h2 | h2
    · simp at h2; exact absurd h2.2.1.symm he
    · exact h2
theorem whole_ct {M : RL} {r : Nat} {v : Value} {f : Bool} : CS Try.prog 60 [.pointer (some ⟨r, 0, none⟩)] ((r, rdRowOf v f) :: M) fun v' L' => v' = .bool (!f) ∧ L' = (r, rdRowOf v f) :: M := by
  refine CS.mk (fn := Try.f60) rfl rfl rfl rfl ?_
  repeat refine LS.seq ?_
  refine LS.region rfl ?_
  refine OS.pure rfl (fun _ => rfl) rfl ?_
  refine OS.nil ?_
  repeat refine LS.seq ?_
  refine LS.region rfl ?_
  refine OS.pure rfl (fun _ => rfl) rfl ?_
  refine OS.pure rfl (fun _ => rfl) rfl ?_
  refine OS.pure rfl (fun _ => rfl) rfl ?_
  refine OS.read rfl (e_load 0 rfl rfl rfl rfl rfl) rfl ?_
  refine OS.pure rfl (fun _ => rfl) rfl ?_
  refine OS.pure rfl (fun _ => rfl) rfl ?_
  refine OS.nil ?_
  refine LS.ret ⟨_, fun _ _ => rfl, ?_⟩
  exact ⟨rfl, rfl⟩
theorem left_ct {M : RL} {r : Nat} {v : Value} {f : Bool} {bs : List UInt8} (hv : OV M v bs) : CS Try.prog 63 [.pointer (some ⟨r, 0, none⟩)] ((r, rdRowOf v f) :: M) fun v' L' => v' = .int .i64 (bs.length : Nat) ∧ L' = (r, rdRowOf v f) :: M := by
  refine CS.mk (fn := Try.f63) rfl rfl rfl rfl ?_
  repeat refine LS.seq ?_
  refine LS.region rfl ?_
  refine OS.pure rfl (fun _ => rfl) rfl ?_
  refine OS.nil ?_
  repeat refine LS.seq ?_
  refine LS.region rfl ?_
  refine OS.pure rfl (fun _ => rfl) rfl ?_
  refine OS.pure rfl (fun _ => rfl) rfl ?_
  refine OS.pure rfl (fun _ => rfl) rfl ?_
  refine OS.read rfl (e_load 0 rfl rfl rfl rfl rfl) rfl ?_
  refine OS.pure rfl (e_len hv.sv rfl rfl rfl rfl rfl) rfl ?_
  refine OS.pure rfl (fun _ => rfl) rfl ?_
  refine OS.nil ?_
  refine LS.ret ⟨_, fun _ _ => rfl, ?_⟩
  exact ⟨rfl, rfl⟩
theorem OK_ct {M : RL} {r : Nat} {v : Value} {f : Bool} : CS Try.prog 31 [.pointer (some ⟨r, 0, none⟩)] ((r, rdRowOf v f) :: M) fun v' L' => v' = .bool (!f) ∧ L' = (r, rdRowOf v f) :: M := by
  refine CS.mk (fn := Try.f31) rfl rfl rfl rfl ?_
  repeat refine LS.seq ?_
  refine LS.region rfl ?_
  refine OS.pure rfl (fun _ => rfl) rfl ?_
  refine OS.nil ?_
  repeat refine LS.seq ?_
  refine LS.region rfl ?_
  refine OS.pure rfl (fun _ => rfl) rfl ?_
  refine OS.pure rfl (fun _ => rfl) rfl ?_
  refine OS.pure rfl (fun _ => rfl) rfl ?_
  refine OS.pure rfl (fun _ => rfl) rfl ?_
  refine OS.pure rfl (fun _ => rfl) rfl ?_
  refine OS.pure rfl (fun _ => rfl) rfl ?_
  refine OS.call noGo rfl (fun _ => rfl) ((whole_ct).mono ?_)
  rintro v' L' ⟨rfl, rfl⟩
  refine ⟨_, rfl, ?_⟩
  refine OS.pure rfl (fun _ => rfl) rfl ?_
  refine OS.pure rfl (fun _ => rfl) rfl ?_
  refine OS.nil ?_
  refine LS.ret ⟨_, fun _ _ => rfl, ?_⟩
  exact ⟨rfl, rfl⟩
theorem Left_ct {M : RL} {r : Nat} {v : Value} {f : Bool} {bs : List UInt8} (hv : OV M v bs) : CS Try.prog 33 [.pointer (some ⟨r, 0, none⟩)] ((r, rdRowOf v f) :: M) fun v' L' => v' = .int .i64 (bs.length : Nat) ∧ L' = (r, rdRowOf v f) :: M := by
  refine CS.mk (fn := Try.f33) rfl rfl rfl rfl ?_
  repeat refine LS.seq ?_
  refine LS.region rfl ?_
  refine OS.pure rfl (fun _ => rfl) rfl ?_
  refine OS.nil ?_
  repeat refine LS.seq ?_
  refine LS.region rfl ?_
  refine OS.pure rfl (fun _ => rfl) rfl ?_
  refine OS.pure rfl (fun _ => rfl) rfl ?_
  refine OS.nil ?_
  refine LS.cond rfl (fun hc => by cases hc) (fun hc => ?_)
  refine LS.skip ?_
  repeat refine LS.seq ?_
  refine LS.region rfl ?_
  refine OS.pure rfl (fun _ => rfl) rfl ?_
  refine OS.pure rfl (fun _ => rfl) rfl ?_
  refine OS.pure rfl (fun _ => rfl) rfl ?_
  refine OS.call noGo rfl (fun _ => rfl) ((left_ct hv).mono ?_)
  rintro v' L' ⟨rfl, rfl⟩
  refine ⟨_, rfl, ?_⟩
  refine OS.pure rfl (fun _ => rfl) rfl ?_
  refine OS.nil ?_
  refine LS.ret ⟨_, fun _ _ => rfl, ?_⟩
  exact ⟨rfl, rfl⟩
theorem fail_ct {M : RL} {r : Nat} {v : Value} {f : Bool} : CS Try.prog 83 [.pointer (some ⟨r, 0, none⟩)] ((r, rdRowOf v f) :: M) fun v' L' => L' = (r, rdRowOf (.slice none 0 0) true) :: M := by
  refine CS.mk (fn := Try.f83) rfl rfl rfl rfl ?_
  repeat refine LS.seq ?_
  refine LS.region rfl ?_
  refine OS.pure rfl (fun _ => rfl) rfl ?_
  refine OS.pure rfl (fun _ => rfl) rfl ?_
  refine OS.pure rfl (fun _ => rfl) rfl ?_
  refine OS.pure rfl (fun _ => rfl) rfl ?_
  refine OS.write rfl (e_store 0 rfl rfl rfl rfl rfl rfl rfl rfl) rfl ?_
  refine OS.pure rfl (fun _ => rfl) rfl ?_
  refine OS.pure rfl (fun _ => rfl) rfl ?_
  refine OS.write rfl (e_store 0 rfl rfl rfl rfl rfl rfl rfl rfl) rfl ?_
  refine OS.nil ?_
  exact ⟨_, fun _ _ => rfl, rfl⟩
theorem Count1_ct {L : RL} {b : Value} {bs : List UInt8} {rm : Nat} {most : Int} (h0 : -9223372036854775808 ≤ most) (h1 : most ≤ 9223372036854775807) (hm : (rm, .cells 3 [.int .i64 most]) ∈ L) (hb : OV L b bs) (hn : bs.length ≤ 9223372036854775807) :
    CS Try.prog 76 [b, .pointer (some ⟨rm, 0, none⟩)] L fun v L' => v = .tuple #[.int .i64 ((cAt bs most).1 : Nat), .int .i64 ((cAt bs most).2 : Nat)] ∧ L' = L := by
  refine CS.mk (fn := Try.f76) rfl rfl rfl rfl ?_
  repeat refine LS.seq ?_
  refine LS.region rfl ?_
  refine OS.pure rfl (fun _ => rfl) rfl ?_
  refine OS.pure rfl (fun _ => rfl) rfl ?_
  refine OS.nil ?_
  repeat refine LS.seq ?_
  refine LS.region rfl ?_
  refine OS.pure rfl (fun _ => rfl) rfl ?_
  refine OS.read rfl (e_loadm hm rfl rfl rfl (part_one rfl rfl)) rfl ?_
  refine OS.call noGo rfl (fun _ => rfl) ((countAt_ct most h0 h1 hb hn).mono ?_)
  rintro v L' ⟨rfl, rfl⟩
  refine ⟨_, rfl, ?_⟩
  refine OS.pure rfl (fun _ => rfl) rfl ?_
  refine OS.pure rfl (fun _ => rfl) rfl ?_
  refine OS.pure rfl (fun _ => rfl) rfl ?_
  refine OS.pure rfl (fun _ => rfl) rfl ?_
  refine OS.nil ?_
  refine LS.ret ⟨_, fun _ _ => rfl, ?_⟩
  exact ⟨rfl, rfl⟩
theorem Str1_ct {L : RL} {b : Value} {bs : List UInt8} {rm : Nat} {most : Int} (h0 : -9223372036854775808 ≤ most) (h1 : most ≤ 9223372036854775807) (hm : (rm, .cells 3 [.int .i64 most]) ∈ L) (hb : OV L b bs) (hn : bs.length ≤ 9223372036854775807) :
    CS Try.prog 79 [b, .pointer (some ⟨rm, 0, none⟩)] L fun v L' => v = .tuple #[.string ⟨⟨(sAt bs most).1⟩⟩, .int .i64 ((sAt bs most).2 : Nat)] ∧ L' = L := by
  refine CS.mk (fn := Try.f79) rfl rfl rfl rfl ?_
  repeat refine LS.seq ?_
  refine LS.region rfl ?_
  refine OS.pure rfl (fun _ => rfl) rfl ?_
  refine OS.pure rfl (fun _ => rfl) rfl ?_
  refine OS.nil ?_
  repeat refine LS.seq ?_
  refine LS.region rfl ?_
  refine OS.pure rfl (fun _ => rfl) rfl ?_
  refine OS.read rfl (e_loadm hm rfl rfl rfl (part_one rfl rfl)) rfl ?_
  refine OS.call noGo rfl (fun _ => rfl) ((strAt_ct most h0 h1 hb hn).mono ?_)
  rintro v L' ⟨rfl, rfl⟩
  refine ⟨_, rfl, ?_⟩
  refine OS.pure rfl (fun _ => rfl) rfl ?_
  refine OS.pure rfl (fun _ => rfl) rfl ?_
  refine OS.pure rfl (fun _ => rfl) rfl ?_
  refine OS.pure rfl (fun _ => rfl) rfl ?_
  refine OS.nil ?_
  refine LS.ret ⟨_, fun _ _ => rfl, ?_⟩
  exact ⟨rfl, rfl⟩
theorem NewReader_ct {L : RL} {b : Value} {bs : List UInt8} (hb : SV 1 L b bs.length (byteCells bs)) (hn : bs.length ≤ 400000000000) :
    CS Try.prog 29 [b] L fun v L' => ∃ r rb, v = .pointer (some ⟨r, 0, none⟩) ∧ RDR ((rb, .cells 5 (byteCells bs)) :: L) r (bs, false) L' := by
  refine CS.mk (fn := Try.f29) rfl rfl rfl rfl ?_
  repeat refine LS.seq ?_
  refine LS.region rfl ?_
  refine OS.pure rfl (fun _ => rfl) rfl ?_
  refine OS.nil ?_
  repeat refine LS.seq ?_
  refine LS.region rfl ?_
  refine OS.pure rfl (fun _ => rfl) rfl ?_
  refine OS.call noGo rfl (fun _ => rfl) ((own_ct (room := 0) hb hn (by omega)).mono ?_)
  rintro v L' ⟨rb, rfl, rfl⟩
  refine ⟨_, rfl, ?_⟩
  refine OS.pure rfl (fun _ => rfl) rfl ?_
  refine OS.pure rfl (fun _ => rfl) rfl ?_
  refine OS.fresh rfl (e_new (fun _ => rfl) rfl) (fun _ => rfl) (fun r => ?_)
  refine OS.pure rfl (fun _ => rfl) rfl ?_
  refine OS.nil ?_
  refine LS.ret ⟨_, fun _ _ => rfl, ?_⟩
  exact ⟨r, rb, rfl, _, rfl, .inr ⟨rb, 0, byteCells bs, rfl, List.mem_cons_self .., cut_all (byteCells_len bs)⟩⟩
end Go.Proofs.Ytdffhllecojgcaa
namespace Go.Proofs.Ytdffhllecojgcaa.T
open Go.Am
set_option linter.unusedVariables false
set_option maxRecDepth 20000

abbrev rrRowOf (v : Value) (f : Bool) : ARow := .cells 81 [v, .bool f]
def RDR (T M : RL) (r : Nat) (s : St) (L : RL) : Prop := ∃ v, L = (r, rdRowOf v s.2) :: M ∧ OV T v s.1
def RRR (T M : RL) (r : Nat) (s : St) (L : RL) : Prop := ∃ v, L = (r, rrRowOf v s.2) :: M ∧ OV T v s.1
/-- A part of bytes, in the same rows. -/
theorem e_cutB {P : Program} {o : Oper} {a : Slots} {T L : RL} {t : TypeId} {x : Operand} {lo hi : Option Operand} {lo' hi' : Option Value} {v : Value} {l u : Nat} {bs : List UInt8} (hT : ∀ p, p ∈ T → p ∈ L) (hs : OV T v bs) (ho : o.op = .slice t x lo hi none) (hx : aev a x = some v)
    (hlo : optEv a lo = some lo') (hhi : optEv a hi = some hi') (bl : boundB lo' 0 = some l) (bu : boundB hi' bs.length = some u) (ht : P.underlying t = some (.slice 5)) (hz : sizeB P 5 = some 1) (hu : u ≤ bs.length) (hl : l ≤ u) :
    ∃ v', OV T v' ((bs.drop l).take (u - l)) ∧ ∀ h, Has h L → opB P a o h = some (.val v' h) := by
  have hlen : ((bs.drop l).take (u - l)).length = u - l := by simp; omega
  rcases hs with ⟨rfl, rfl⟩ | ⟨r, off, C, rfl, hm, hc⟩
  · have hu0 : u = 0 := by simpa using hu
    subst hu0
    have hl0 : l = 0 := by omega
    subst hl0
    refine ⟨.slice none 0 0, .inl ⟨rfl, by simp⟩, fun h _ => ?_⟩
    have hm' : optEv a none = some none := rfl
    have hcb : Nat.beq 0 openCap = false := beq_false (by decide)
    have h1 : Nat.ble 0 (farB 0 0) = true := rfl
    have h2 : Nat.ble 0 0 = true := rfl
    have h3 : rowOk h 5 none 0 = true := by unfold rowOk; rw [hcb]; rfl
    have bu' : boundB hi' 0 = some 0 := bu
    simp only [opB, ho, hx, hlo, hhi, hm', sliceB, ht, bu', bl, hz, h1, h2, h3, Bool.true_and, moved, hcb, ret]
  · have hcut : cut C (off + l * 1) (u - l) = some (byteCells ((bs.drop l).take (u - l))) := by
      rw [Nat.mul_one]
      exact cut_cut hc (by rw [cut_bytes (by omega)])
    obtain ⟨i, hi⟩ := List.mem_iff_getElem?.1 (hT _ hm)
    exact ⟨.slice (some ⟨r, off + l * 1, none⟩) (u - l) openCap, .inr ⟨r, _, C, by rw [hlen], hm, by rw [hlen]; exact hcut⟩, e_slice i ho hx hlo hhi bl bu ht hz hu hl hi⟩
theorem OS.cutT {P : Program} {ops rest : List Oper} {o : Oper} {a : Slots} {T L : RL} {K : Slots → RL → Prop} {t : TypeId} {x : Operand} {lo hi : Option Operand} {lo' hi' : Option Value} {v : Value} {l u : Nat} {bs : List UInt8} (hT : ∀ p, p ∈ T → p ∈ L) (hs : OV T v bs) (hw : wantedB ops o a = true) (ho : o.op = .slice t x lo hi none) (hx : aev a x = some v)
    (hlo : optEv a lo = some lo') (hhi : optEv a hi = some hi') (bl : boundB lo' 0 = some l) (bu : boundB hi' bs.length = some u) (ht : P.underlying t = some (.slice 5)) (hz : sizeB P 5 = some 1) (hu : u ≤ bs.length) (hl : l ≤ u)
    (hk : ∀ v', OV T v' ((bs.drop l).take (u - l)) → ∃ a₁, putAt a o.dst v' = some a₁ ∧ OS P ops rest a₁ L K) : OS P ops (o :: rest) a L K := by
  obtain ⟨v', h1, h2⟩ := e_cutB hT hs ho hx hlo hhi bl bu ht hz hu hl
  obtain ⟨a₁, ep, k⟩ := hk v' h1
  exact Am.OS.read hw h2 ep k
theorem ODS.cutT {P : Program} {ops : List Oper} {ms : List Nat} {sched : List (Nat × Bool)} {dn : Dn} {q : Nat} {o : Oper} {a : Slots} {T L : RL} {K : Slots → RL → Prop} {t : TypeId} {x : Operand} {lo hi : Option Operand} {lo' hi' : Option Value} {v : Value} {l u : Nat} {bs : List UInt8} (hT : ∀ p, p ∈ T → p ∈ L) (hs : OV T v bs) (hq : ops[q]? = some o) (hw : wantedB ops o a = true) (ho : o.op = .slice t x lo hi none) (hx : aev a x = some v)
    (hlo : optEv a lo = some lo') (hhi : optEv a hi = some hi') (bl : boundB lo' 0 = some l) (bu : boundB hi' bs.length = some u) (ht : P.underlying t = some (.slice 5)) (hz : sizeB P 5 = some 1) (hu : u ≤ bs.length) (hl : l ≤ u)
    (hk : ∀ v', OV T v' ((bs.drop l).take (u - l)) → ∃ a₁, putAt a o.dst v' = some a₁ ∧ ODS P ops ms K sched ((q, a, v') :: dn) a₁ L) : ODS P ops ms K ((q, false) :: sched) dn a L := by
  obtain ⟨v', h1, h2⟩ := e_cutB hT hs ho hx hlo hhi bl bu ht hz hu hl
  obtain ⟨a₁, ep, k⟩ := hk v' h1
  exact Am.ODS.read hq hw h2 ep k
theorem OV.one {T : RL} {v : Value} {bs : List UInt8} (h : OV T v bs) : allOne v.cells.toList = true ∧ v.cells.toList = [v] := by
  rcases h with ⟨rfl, _⟩ | ⟨_, _, _, rfl, _⟩ <;> exact ⟨rfl, rfl⟩
theorem pass_ct {M : RL} {r k : Nat} {v : Value} {f : Bool} {bs : List UInt8} {T : RL} (hT : ∀ p, p ∈ T → p ∈ M) (hv : OV T v bs) (hk : k ≤ bs.length) : CS Try.prog 84 [.pointer (some ⟨r, 0, none⟩), .int .i64 (k : Nat)] ((r, rdRowOf v f) :: M) fun v' L' => RDR T M r (bs.drop k, f) L' := by
  refine CS.mk (fn := Try.f84) rfl rfl rfl rfl ?_
  repeat refine LS.seq ?_
  refine LS.region rfl ?_
  refine OS.pure rfl (fun _ => rfl) rfl ?_
  refine OS.pure rfl (fun _ => rfl) rfl ?_
  refine OS.pure rfl (fun _ => rfl) rfl ?_
  refine OS.pure rfl (fun _ => rfl) rfl ?_
  refine OS.read rfl (e_load 0 rfl rfl rfl rfl rfl) rfl ?_
  refine OS.pure rfl (fun _ => rfl) rfl ?_
  refine OS.cutT (l := k) (u := bs.length) (fun p hp => List.mem_cons_of_mem _ (hT p hp)) hv rfl rfl rfl rfl rfl bound_nat rfl rfl rfl (by omega) hk (fun v' hv' => ?_)
  rw [List.take_of_length_le (by simp)] at hv'
  have hone := OV.one hv'
  refine ⟨_, rfl, ?_⟩
  refine OS.pure rfl (fun _ => rfl) rfl ?_
  refine OS.pure rfl (fun _ => rfl) rfl ?_
  refine OS.write rfl (e_store 0 (n := 1) (cs' := [v', .bool f]) rfl rfl rfl rfl rfl (by rw [hone.1, hone.2]; rfl) (by rw [hone.2]; rfl) rfl) rfl ?_
  refine OS.nil ?_
  exact ⟨_, fun _ _ => rfl, v', rfl, hv'⟩
theorem takeFlag_ct {M : RL} {r : Nat} {bs : List UInt8} {f : Bool} {v : Value} {T : RL} (hT : ∀ p, p ∈ T → p ∈ M) (hv : OV T v bs) (hn : bs.length ≤ 9223372036854775807) :
    CS Try.prog 73 [.pointer (some ⟨r, 0, none⟩), .func (.func 74) #[] #[]] ((r, rdRowOf v f) :: M) fun v' L' => v' = .bool (tk false (fAt bs).1 (fAt bs).2 (bs, f)).1 ∧ RDR T M r (tk false (fAt bs).1 (fAt bs).2 (bs, f)).2 L' := by
  have hkl : (fAt bs).2 ≤ bs.length := fAt_len bs
  have hvM := (hv.mono hT).cons (x := (r, rdRowOf v f))
  refine CS.mk (fn := Try.f73) rfl rfl rfl rfl ?_
  repeat refine LS.seq ?_
  refine LS.region rfl ?_
  refine OS.pure rfl (fun _ => rfl) rfl ?_
  refine OS.nil ?_
  repeat refine LS.seq ?_
  refine LS.region rfl ?_
  refine OS.pure rfl (fun _ => rfl) rfl ?_
  refine OS.nil ?_
  repeat refine LS.seq ?_
  refine LS.region rfl ?_
  refine OS.pure rfl (fun _ => rfl) rfl ?_
  refine OS.call noGo rfl (fun _ => rfl) ((OK_ct).mono ?_)
  rintro v' L' ⟨rfl, rfl⟩
  cases f with
  | true =>
    refine ⟨_, rfl, ?_⟩
    refine OS.pure rfl (fun _ => rfl) rfl ?_
    refine OS.nil ?_
    refine LS.cond rfl (fun hc => ?_) (fun hc => by cases hc)
    repeat refine LS.seq ?_
    refine LS.region rfl ?_
    refine OS.pure rfl (fun _ => rfl) rfl ?_
    refine OS.pure rfl (fun _ => rfl) rfl ?_
    refine OS.nil ?_
    refine LS.ret ⟨_, fun _ _ => rfl, ?_⟩
    exact ⟨rfl, v, rfl, hv⟩
  | false =>
    refine ⟨_, rfl, ?_⟩
    refine OS.pure rfl (fun _ => rfl) rfl ?_
    refine OS.nil ?_
    refine LS.cond rfl (fun hc => by cases hc) (fun hc => ?_)
    refine LS.skip ?_
    repeat refine LS.seq ?_
    refine LS.region rfl ?_
    refine OS.pure rfl (fun _ => rfl) rfl ?_
    refine OS.pure rfl (fun _ => rfl) rfl ?_
    refine OS.pure rfl (fun _ => rfl) rfl ?_
    refine OS.pure rfl (fun _ => rfl) rfl ?_
    refine OS.pure rfl (fun _ => rfl) rfl ?_
    refine OS.read rfl (e_load 0 rfl rfl rfl rfl rfl) rfl ?_
    refine OS.call noGo rfl (fun _ => rfl) ((flagAt_ct hvM).mono ?_)
    rintro v' L' ⟨rfl, rfl⟩
    refine ⟨_, rfl, ?_⟩
    refine OS.pure rfl (fun _ => rfl) rfl ?_
    refine OS.pure rfl (fun _ => rfl) rfl ?_
    refine OS.pure rfl (fun _ => rfl) rfl ?_
    refine OS.pure rfl (fun _ => rfl) rfl ?_
    refine OS.pure rfl (fun _ => rfl) rfl ?_
    refine OS.nil ?_
    by_cases hz : (fAt bs).2 = 0
    · have hb1 : ieqB (((fAt bs).2 : Nat) : Int) 0 = true := by rw [ieqB_eq]; simp; omega
      repeat refine LS.seq ?_
      refine LS.region rfl ?_
      refine OS.pure rfl (fun _ => rfl) rfl ?_
      refine OS.pure rfl (e_is (fun _ => rfl) (congrArg Value.bool hb1)) rfl ?_
      refine OS.nil ?_
      refine LS.cond rfl (fun hc => ?_) (fun hc => by cases hc)
      repeat refine LS.seq ?_
      refine LS.region rfl ?_
      refine OS.pure rfl (fun _ => rfl) rfl ?_
      refine OS.pure rfl (fun _ => rfl) rfl ?_
      refine OS.pure rfl (fun _ => rfl) rfl ?_
      refine OS.call noGo rfl (fun _ => rfl) ((fail_ct).mono ?_)
      rintro v' L' rfl
      refine ⟨_, rfl, ?_⟩
      refine OS.nil ?_
      repeat refine LS.seq ?_
      refine LS.region rfl ?_
      refine OS.pure rfl (fun _ => rfl) rfl ?_
      refine OS.pure rfl (fun _ => rfl) rfl ?_
      refine OS.nil ?_
      refine LS.ret ⟨_, fun _ _ => rfl, ?_⟩
      rw [hz, tk_none]
      exact ⟨rfl, _, rfl, .inl ⟨rfl, rfl⟩⟩
    · have hb1 : ieqB (((fAt bs).2 : Nat) : Int) 0 = false := by rw [ieqB_eq]; simp; omega
      repeat refine LS.seq ?_
      refine LS.region rfl ?_
      refine OS.pure rfl (fun _ => rfl) rfl ?_
      refine OS.pure rfl (e_is (fun _ => rfl) (congrArg Value.bool hb1)) rfl ?_
      refine OS.nil ?_
      refine LS.cond rfl (fun hc => by cases hc) (fun hc => ?_)
      refine LS.skip ?_
      repeat refine LS.seq ?_
      refine LS.region rfl ?_
      refine OS.pure rfl (fun _ => rfl) rfl ?_
      refine OS.pure rfl (fun _ => rfl) rfl ?_
      refine OS.pure rfl (fun _ => rfl) rfl ?_
      refine OS.pure rfl (fun _ => rfl) rfl ?_
      refine OS.call noGo rfl (fun _ => rfl) ((pass_ct (k := (fAt bs).2) hT hv hkl).mono ?_)
      rintro v' L' hr
      refine ⟨_, rfl, ?_⟩
      refine OS.nil ?_
      repeat refine LS.seq ?_
      refine LS.region rfl ?_
      refine OS.pure rfl (fun _ => rfl) rfl ?_
      refine OS.pure rfl (fun _ => rfl) rfl ?_
      refine OS.nil ?_
      refine LS.ret ⟨_, fun _ _ => rfl, ?_⟩
      rw [tk_some hz]
      exact ⟨rfl, hr⟩
theorem takeCount_ct {M : RL} {r : Nat} {bs : List UInt8} {f : Bool} {v : Value} {rm : Nat} {most : Int} (h0 : -9223372036854775808 ≤ most) (h1 : most ≤ 9223372036854775807) (hm : (rm, .cells 3 [.int .i64 most]) ∈ M) {T : RL} (hT : ∀ p, p ∈ T → p ∈ M) (hv : OV T v bs) (hn : bs.length ≤ 9223372036854775807) :
    CS Try.prog 75 [.pointer (some ⟨r, 0, none⟩), .func (.func 76) #[] #[.pointer (some ⟨rm, 0, none⟩)]] ((r, rdRowOf v f) :: M) fun v' L' => v' = .int .i64 (tk (0 : Int) ((cAt bs most).1 : Int) (cAt bs most).2 (bs, f)).1 ∧ RDR T M r (tk (0 : Int) ((cAt bs most).1 : Int) (cAt bs most).2 (bs, f)).2 L' := by
  have hkl : (cAt bs most).2 ≤ bs.length := (cAt_le bs most).2.2
  have hvM := (hv.mono hT).cons (x := (r, rdRowOf v f))
  refine CS.mk (fn := Try.f75) rfl rfl rfl rfl ?_
  repeat refine LS.seq ?_
  refine LS.region rfl ?_
  refine OS.pure rfl (fun _ => rfl) rfl ?_
  refine OS.nil ?_
  repeat refine LS.seq ?_
  refine LS.region rfl ?_
  refine OS.pure rfl (fun _ => rfl) rfl ?_
  refine OS.nil ?_
  repeat refine LS.seq ?_
  refine LS.region rfl ?_
  refine OS.pure rfl (fun _ => rfl) rfl ?_
  refine OS.call noGo rfl (fun _ => rfl) ((OK_ct).mono ?_)
  rintro v' L' ⟨rfl, rfl⟩
  cases f with
  | true =>
    refine ⟨_, rfl, ?_⟩
    refine OS.pure rfl (fun _ => rfl) rfl ?_
    refine OS.nil ?_
    refine LS.cond rfl (fun hc => ?_) (fun hc => by cases hc)
    repeat refine LS.seq ?_
    refine LS.region rfl ?_
    refine OS.pure rfl (fun _ => rfl) rfl ?_
    refine OS.pure rfl (fun _ => rfl) rfl ?_
    refine OS.nil ?_
    refine LS.ret ⟨_, fun _ _ => rfl, ?_⟩
    exact ⟨rfl, v, rfl, hv⟩
  | false =>
    refine ⟨_, rfl, ?_⟩
    refine OS.pure rfl (fun _ => rfl) rfl ?_
    refine OS.nil ?_
    refine LS.cond rfl (fun hc => by cases hc) (fun hc => ?_)
    refine LS.skip ?_
    repeat refine LS.seq ?_
    refine LS.region rfl ?_
    refine OS.pure rfl (fun _ => rfl) rfl ?_
    refine OS.pure rfl (fun _ => rfl) rfl ?_
    refine OS.pure rfl (fun _ => rfl) rfl ?_
    refine OS.pure rfl (fun _ => rfl) rfl ?_
    refine OS.pure rfl (fun _ => rfl) rfl ?_
    refine OS.read rfl (e_load 0 rfl rfl rfl rfl rfl) rfl ?_
    refine OS.call noGo rfl (fun _ => rfl) ((Count1_ct h0 h1 (List.mem_cons_of_mem _ hm) hvM hn).mono ?_)
    rintro v' L' ⟨rfl, rfl⟩
    refine ⟨_, rfl, ?_⟩
    refine OS.pure rfl (fun _ => rfl) rfl ?_
    refine OS.pure rfl (fun _ => rfl) rfl ?_
    refine OS.pure rfl (fun _ => rfl) rfl ?_
    refine OS.pure rfl (fun _ => rfl) rfl ?_
    refine OS.pure rfl (fun _ => rfl) rfl ?_
    refine OS.nil ?_
    by_cases hz : (cAt bs most).2 = 0
    · have hb1 : ieqB (((cAt bs most).2 : Nat) : Int) 0 = true := by rw [ieqB_eq]; simp; omega
      repeat refine LS.seq ?_
      refine LS.region rfl ?_
      refine OS.pure rfl (fun _ => rfl) rfl ?_
      refine OS.pure rfl (e_is (fun _ => rfl) (congrArg Value.bool hb1)) rfl ?_
      refine OS.nil ?_
      refine LS.cond rfl (fun hc => ?_) (fun hc => by cases hc)
      repeat refine LS.seq ?_
      refine LS.region rfl ?_
      refine OS.pure rfl (fun _ => rfl) rfl ?_
      refine OS.pure rfl (fun _ => rfl) rfl ?_
      refine OS.pure rfl (fun _ => rfl) rfl ?_
      refine OS.call noGo rfl (fun _ => rfl) ((fail_ct).mono ?_)
      rintro v' L' rfl
      refine ⟨_, rfl, ?_⟩
      refine OS.nil ?_
      repeat refine LS.seq ?_
      refine LS.region rfl ?_
      refine OS.pure rfl (fun _ => rfl) rfl ?_
      refine OS.pure rfl (fun _ => rfl) rfl ?_
      refine OS.nil ?_
      refine LS.ret ⟨_, fun _ _ => rfl, ?_⟩
      rw [hz, tk_none]
      exact ⟨rfl, _, rfl, .inl ⟨rfl, rfl⟩⟩
    · have hb1 : ieqB (((cAt bs most).2 : Nat) : Int) 0 = false := by rw [ieqB_eq]; simp; omega
      repeat refine LS.seq ?_
      refine LS.region rfl ?_
      refine OS.pure rfl (fun _ => rfl) rfl ?_
      refine OS.pure rfl (e_is (fun _ => rfl) (congrArg Value.bool hb1)) rfl ?_
      refine OS.nil ?_
      refine LS.cond rfl (fun hc => by cases hc) (fun hc => ?_)
      refine LS.skip ?_
      repeat refine LS.seq ?_
      refine LS.region rfl ?_
      refine OS.pure rfl (fun _ => rfl) rfl ?_
      refine OS.pure rfl (fun _ => rfl) rfl ?_
      refine OS.pure rfl (fun _ => rfl) rfl ?_
      refine OS.pure rfl (fun _ => rfl) rfl ?_
      refine OS.call noGo rfl (fun _ => rfl) ((pass_ct (k := (cAt bs most).2) hT hv hkl).mono ?_)
      rintro v' L' hr
      refine ⟨_, rfl, ?_⟩
      refine OS.nil ?_
      repeat refine LS.seq ?_
      refine LS.region rfl ?_
      refine OS.pure rfl (fun _ => rfl) rfl ?_
      refine OS.pure rfl (fun _ => rfl) rfl ?_
      refine OS.nil ?_
      refine LS.ret ⟨_, fun _ _ => rfl, ?_⟩
      rw [tk_some hz]
      exact ⟨rfl, hr⟩
theorem takeStr_ct {M : RL} {r : Nat} {bs : List UInt8} {f : Bool} {v : Value} {rm : Nat} {most : Int} (h0 : -9223372036854775808 ≤ most) (h1 : most ≤ 9223372036854775807) (hm : (rm, .cells 3 [.int .i64 most]) ∈ M) {T : RL} (hT : ∀ p, p ∈ T → p ∈ M) (hv : OV T v bs) (hn : bs.length ≤ 9223372036854775807) :
    CS Try.prog 78 [.pointer (some ⟨r, 0, none⟩), .func (.func 79) #[] #[.pointer (some ⟨rm, 0, none⟩)]] ((r, rdRowOf v f) :: M) fun v' L' => v' = txt (tk ([] : List UInt8) (sAt bs most).1 (sAt bs most).2 (bs, f)).1 ∧ RDR T M r (tk ([] : List UInt8) (sAt bs most).1 (sAt bs most).2 (bs, f)).2 L' := by
  have hkl : (sAt bs most).2 ≤ bs.length := sAt_len bs most
  have hvM := (hv.mono hT).cons (x := (r, rdRowOf v f))
  refine CS.mk (fn := Try.f78) rfl rfl rfl rfl ?_
  repeat refine LS.seq ?_
  refine LS.region rfl ?_
  refine OS.pure rfl (fun _ => rfl) rfl ?_
  refine OS.nil ?_
  repeat refine LS.seq ?_
  refine LS.region rfl ?_
  refine OS.pure rfl (fun _ => rfl) rfl ?_
  refine OS.nil ?_
  repeat refine LS.seq ?_
  refine LS.region rfl ?_
  refine OS.pure rfl (fun _ => rfl) rfl ?_
  refine OS.call noGo rfl (fun _ => rfl) ((OK_ct).mono ?_)
  rintro v' L' ⟨rfl, rfl⟩
  cases f with
  | true =>
    refine ⟨_, rfl, ?_⟩
    refine OS.pure rfl (fun _ => rfl) rfl ?_
    refine OS.nil ?_
    refine LS.cond rfl (fun hc => ?_) (fun hc => by cases hc)
    repeat refine LS.seq ?_
    refine LS.region rfl ?_
    refine OS.pure rfl (fun _ => rfl) rfl ?_
    refine OS.pure rfl (fun _ => rfl) rfl ?_
    refine OS.nil ?_
    refine LS.ret ⟨_, fun _ _ => rfl, ?_⟩
    exact ⟨rfl, v, rfl, hv⟩
  | false =>
    refine ⟨_, rfl, ?_⟩
    refine OS.pure rfl (fun _ => rfl) rfl ?_
    refine OS.nil ?_
    refine LS.cond rfl (fun hc => by cases hc) (fun hc => ?_)
    refine LS.skip ?_
    repeat refine LS.seq ?_
    refine LS.region rfl ?_
    refine OS.pure rfl (fun _ => rfl) rfl ?_
    refine OS.pure rfl (fun _ => rfl) rfl ?_
    refine OS.pure rfl (fun _ => rfl) rfl ?_
    refine OS.pure rfl (fun _ => rfl) rfl ?_
    refine OS.pure rfl (fun _ => rfl) rfl ?_
    refine OS.read rfl (e_load 0 rfl rfl rfl rfl rfl) rfl ?_
    refine OS.call noGo rfl (fun _ => rfl) ((Str1_ct h0 h1 (List.mem_cons_of_mem _ hm) hvM hn).mono ?_)
    rintro v' L' ⟨rfl, rfl⟩
    refine ⟨_, rfl, ?_⟩
    refine OS.pure rfl (fun _ => rfl) rfl ?_
    refine OS.pure rfl (fun _ => rfl) rfl ?_
    refine OS.pure rfl (fun _ => rfl) rfl ?_
    refine OS.pure rfl (fun _ => rfl) rfl ?_
    refine OS.pure rfl (fun _ => rfl) rfl ?_
    refine OS.nil ?_
    by_cases hz : (sAt bs most).2 = 0
    · have hb1 : ieqB (((sAt bs most).2 : Nat) : Int) 0 = true := by rw [ieqB_eq]; simp; omega
      repeat refine LS.seq ?_
      refine LS.region rfl ?_
      refine OS.pure rfl (fun _ => rfl) rfl ?_
      refine OS.pure rfl (e_is (fun _ => rfl) (congrArg Value.bool hb1)) rfl ?_
      refine OS.nil ?_
      refine LS.cond rfl (fun hc => ?_) (fun hc => by cases hc)
      repeat refine LS.seq ?_
      refine LS.region rfl ?_
      refine OS.pure rfl (fun _ => rfl) rfl ?_
      refine OS.pure rfl (fun _ => rfl) rfl ?_
      refine OS.pure rfl (fun _ => rfl) rfl ?_
      refine OS.call noGo rfl (fun _ => rfl) ((fail_ct).mono ?_)
      rintro v' L' rfl
      refine ⟨_, rfl, ?_⟩
      refine OS.nil ?_
      repeat refine LS.seq ?_
      refine LS.region rfl ?_
      refine OS.pure rfl (fun _ => rfl) rfl ?_
      refine OS.pure rfl (fun _ => rfl) rfl ?_
      refine OS.nil ?_
      refine LS.ret ⟨_, fun _ _ => rfl, ?_⟩
      rw [hz, tk_none]
      exact ⟨rfl, _, rfl, .inl ⟨rfl, rfl⟩⟩
    · have hb1 : ieqB (((sAt bs most).2 : Nat) : Int) 0 = false := by rw [ieqB_eq]; simp; omega
      repeat refine LS.seq ?_
      refine LS.region rfl ?_
      refine OS.pure rfl (fun _ => rfl) rfl ?_
      refine OS.pure rfl (e_is (fun _ => rfl) (congrArg Value.bool hb1)) rfl ?_
      refine OS.nil ?_
      refine LS.cond rfl (fun hc => by cases hc) (fun hc => ?_)
      refine LS.skip ?_
      repeat refine LS.seq ?_
      refine LS.region rfl ?_
      refine OS.pure rfl (fun _ => rfl) rfl ?_
      refine OS.pure rfl (fun _ => rfl) rfl ?_
      refine OS.pure rfl (fun _ => rfl) rfl ?_
      refine OS.pure rfl (fun _ => rfl) rfl ?_
      refine OS.call noGo rfl (fun _ => rfl) ((pass_ct (k := (sAt bs most).2) hT hv hkl).mono ?_)
      rintro v' L' hr
      refine ⟨_, rfl, ?_⟩
      refine OS.nil ?_
      repeat refine LS.seq ?_
      refine LS.region rfl ?_
      refine OS.pure rfl (fun _ => rfl) rfl ?_
      refine OS.pure rfl (fun _ => rfl) rfl ?_
      refine OS.nil ?_
      refine LS.ret ⟨_, fun _ _ => rfl, ?_⟩
      rw [tk_some hz]
      exact ⟨rfl, hr⟩
theorem RFlag_ct {M : RL} {r : Nat} {bs : List UInt8} {f : Bool} {v : Value} {T : RL} (hT : ∀ p, p ∈ T → p ∈ M) (hv : OV T v bs) (hn : bs.length ≤ 9223372036854775807) :
    CS Try.prog 55 [.pointer (some ⟨r, 0, none⟩)] ((r, rdRowOf v f) :: M) fun v' L' => v' = .bool (tk false (fAt bs).1 (fAt bs).2 (bs, f)).1 ∧ RDR T M r (tk false (fAt bs).1 (fAt bs).2 (bs, f)).2 L' := by
  refine CS.mk (fn := Try.f55) rfl rfl rfl rfl ?_
  repeat refine LS.seq ?_
  refine LS.region rfl ?_
  refine OS.pure rfl (fun _ => rfl) rfl ?_
  refine OS.nil ?_
  repeat refine LS.seq ?_
  refine LS.region rfl ?_
  refine OS.pure rfl (fun _ => rfl) rfl ?_
  refine OS.call noGo rfl (fun _ => rfl) ((takeFlag_ct hT hv hn).mono ?_)
  rintro v' L' ⟨rfl, hr⟩
  refine ⟨_, rfl, ?_⟩
  refine OS.pure rfl (fun _ => rfl) rfl ?_
  refine OS.nil ?_
  refine LS.ret ⟨_, fun _ _ => rfl, ?_⟩
  exact ⟨rfl, hr⟩
theorem RCount_ct {M : RL} {r : Nat} {bs : List UInt8} {f : Bool} {v : Value} {most : Int} (h0 : -9223372036854775808 ≤ most) (h1 : most ≤ 9223372036854775807) {T : RL} (hT : ∀ p, p ∈ T → p ∈ M) (hv : OV T v bs) (hn : bs.length ≤ 9223372036854775807) :
    CS Try.prog 56 [.pointer (some ⟨r, 0, none⟩), .int .i64 most] ((r, rdRowOf v f) :: M) fun v' L' => v' = .int .i64 (tk (0 : Int) ((cAt bs most).1 : Int) (cAt bs most).2 (bs, f)).1 ∧ RDR T M r (tk (0 : Int) ((cAt bs most).1 : Int) (cAt bs most).2 (bs, f)).2 L' := by
  refine CS.mk (fn := Try.f56) rfl rfl rfl rfl ?_
  repeat refine LS.seq ?_
  refine LS.region rfl ?_
  refine OS.fresh rfl (e_new (fun _ => rfl) rfl) (fun _ => rfl) (fun rm => ?_)
  refine OS.pure rfl (fun _ => rfl) rfl ?_
  refine OS.nil ?_
  repeat refine LS.seq ?_
  refine LS.region rfl ?_
  refine OS.pure rfl (fun _ => rfl) rfl ?_
  refine OS.pure rfl (fun _ => rfl) rfl ?_
  refine OS.sub (Sub.pulls [1] rfl) ?_
  refine OS.call noGo rfl (fun _ => rfl) ((takeCount_ct (rm := rm) h0 h1 (List.mem_cons_self ..) (fun p hp => List.mem_cons_of_mem _ (hT p hp)) hv hn).mono ?_)
  rintro v' L' ⟨rfl, v2, rfl, hr⟩
  refine ⟨_, rfl, ?_⟩
  refine OS.pure rfl (fun _ => rfl) rfl ?_
  refine OS.sub (Sub.drop 1 rfl) ?_
  refine OS.nil ?_
  refine LS.ret ⟨_, fun _ _ => rfl, ?_⟩
  exact ⟨rfl, v2, rfl, hr⟩
theorem RStr_ct {M : RL} {r : Nat} {bs : List UInt8} {f : Bool} {v : Value} {most : Int} (h0 : -9223372036854775808 ≤ most) (h1 : most ≤ 9223372036854775807) {T : RL} (hT : ∀ p, p ∈ T → p ∈ M) (hv : OV T v bs) (hn : bs.length ≤ 9223372036854775807) :
    CS Try.prog 58 [.pointer (some ⟨r, 0, none⟩), .int .i64 most] ((r, rdRowOf v f) :: M) fun v' L' => v' = txt (tk ([] : List UInt8) (sAt bs most).1 (sAt bs most).2 (bs, f)).1 ∧ RDR T M r (tk ([] : List UInt8) (sAt bs most).1 (sAt bs most).2 (bs, f)).2 L' := by
  refine CS.mk (fn := Try.f58) rfl rfl rfl rfl ?_
  repeat refine LS.seq ?_
  refine LS.region rfl ?_
  refine OS.fresh rfl (e_new (fun _ => rfl) rfl) (fun _ => rfl) (fun rm => ?_)
  refine OS.pure rfl (fun _ => rfl) rfl ?_
  refine OS.nil ?_
  repeat refine LS.seq ?_
  refine LS.region rfl ?_
  refine OS.pure rfl (fun _ => rfl) rfl ?_
  refine OS.pure rfl (fun _ => rfl) rfl ?_
  refine OS.sub (Sub.pulls [1] rfl) ?_
  refine OS.call noGo rfl (fun _ => rfl) ((takeStr_ct (rm := rm) h0 h1 (List.mem_cons_self ..) (fun p hp => List.mem_cons_of_mem _ (hT p hp)) hv hn).mono ?_)
  rintro v' L' ⟨rfl, v2, rfl, hr⟩
  refine ⟨_, rfl, ?_⟩
  refine OS.pure rfl (fun _ => rfl) rfl ?_
  refine OS.sub (Sub.drop 1 rfl) ?_
  refine OS.nil ?_
  refine LS.ret ⟨_, fun _ _ => rfl, ?_⟩
  exact ⟨rfl, v2, rfl, hr⟩
theorem rOK_ct {M : RL} {r : Nat} {v : Value} {f : Bool} : CS Try.prog 37 [.pointer (some ⟨r, 0, none⟩)] ((r, rrRowOf v f) :: M) fun v' L' => v' = .bool (!f) ∧ L' = (r, rrRowOf v f) :: M := by
  refine CS.mk (fn := Try.f37) rfl rfl rfl rfl ?_
  repeat refine LS.seq ?_
  refine LS.region rfl ?_
  refine OS.pure rfl (fun _ => rfl) rfl ?_
  refine OS.nil ?_
  repeat refine LS.seq ?_
  refine LS.region rfl ?_
  refine OS.pure rfl (fun _ => rfl) rfl ?_
  refine OS.pure rfl (fun _ => rfl) rfl ?_
  refine OS.pure rfl (fun _ => rfl) rfl ?_
  refine OS.read rfl (e_load 0 rfl rfl rfl rfl rfl) rfl ?_
  refine OS.pure rfl (fun _ => rfl) rfl ?_
  refine OS.pure rfl (fun _ => rfl) rfl ?_
  refine OS.nil ?_
  refine LS.ret ⟨_, fun _ _ => rfl, ?_⟩
  exact ⟨rfl, rfl⟩
theorem rfails_ct {M : RL} {r : Nat} {v : Value} {f : Bool} : CS Try.prog 65 [.pointer (some ⟨r, 0, none⟩)] ((r, rrRowOf v f) :: M) fun v' L' => L' = (r, rrRowOf (.slice none 0 0) true) :: M := by
  refine CS.mk (fn := Try.f65) rfl rfl rfl rfl ?_
  repeat refine LS.seq ?_
  refine LS.region rfl ?_
  refine OS.pure rfl (fun _ => rfl) rfl ?_
  refine OS.pure rfl (fun _ => rfl) rfl ?_
  refine OS.pure rfl (fun _ => rfl) rfl ?_
  refine OS.write rfl (e_store 0 rfl rfl rfl rfl rfl rfl rfl rfl) rfl ?_
  refine OS.nil ?_
  repeat refine LS.seq ?_
  refine LS.region rfl ?_
  refine OS.pure rfl (fun _ => rfl) rfl ?_
  refine OS.pure rfl (fun _ => rfl) rfl ?_
  refine OS.pure rfl (fun _ => rfl) rfl ?_
  refine OS.write rfl (e_store 0 rfl rfl rfl rfl rfl rfl rfl rfl) rfl ?_
  refine OS.nil ?_
  exact ⟨_, fun _ _ => rfl, rfl⟩
/-- The number whose groups these are. -/
def valB : List UInt8 → Nat
  | [] => 0
  | c :: r => c.toNat % 128 + 128 * valB r
theorem valB_grp (u : Nat) : valB (grp u) = u := by
  induction u using Nat.strongRecOn with
  | _ u ih =>
    by_cases h : u < 128
    · rw [grp_lt h]; simp only [valB]; rw [toNat_of (by omega)]; omega
    · rw [grp_ge (by omega)]; simp only [valB]; rw [toNat_of (by omega), ih (u / 128) (by omega)]; omega
theorem off_ct {M : RL} {r : Nat} {v : Value} {f : Bool} {bs : List UInt8} (hv : OV M v bs) (hn : bs.length ≤ 9223372036854775807) :
    CS Try.prog 82 [.pointer (some ⟨r, 0, none⟩)] ((r, rrRowOf v f) :: M) fun v' L' => v' = .tuple #[.int .u64 ((gat bs).1 : Nat), .int .i64 ((gat bs).2 : Nat)] ∧ L' = (r, rrRowOf v f) :: M := by
  refine CS.mk (fn := Try.f82) rfl rfl rfl rfl ?_
  repeat refine LS.seq ?_
  refine LS.region rfl ?_
  refine OS.pure rfl (fun _ => rfl) rfl ?_
  refine OS.pure rfl (fun _ => rfl) rfl ?_
  refine OS.nil ?_
  repeat refine LS.seq ?_
  refine LS.region rfl ?_
  refine OS.pure rfl (fun _ => rfl) rfl ?_
  refine OS.nil ?_
  repeat refine LS.seq ?_
  refine LS.region rfl ?_
  refine OS.pure rfl (fun _ => rfl) rfl ?_
  refine OS.nil ?_
  repeat refine LS.seq ?_
  refine LS.block ?_
  -- no shorter one is there
  refine LS.loopJ [0, 5] (fun q a L => ∃ n, q = 11 - n ∧ 1 ≤ n ∧ n ≤ 11 ∧ n ≤ bs.length + 1 ∧ ((gat bs).2 = 0 ∨ n ≤ (gat bs).2) ∧ L = (r, rrRowOf v f) :: M ∧ a = [.pointer (some ⟨r, 0, none⟩), .chan none, .chan none, .chan none, .chan none, .int .i64 (n : Nat), .chan none, .chan none, .chan none, .chan none, .chan none, .chan none, .chan none, .chan none, .chan none, .chan none, .chan none, .chan none, .chan none, .chan none, .chan none, .chan none, .chan none, .chan none, .chan none, .chan none, .chan none, .chan none, .chan none, .chan none, .chan none, .chan none, .chan none, .chan none, .chan none, .chan none, .chan none, .chan none, .chan none, .chan none, .chan none, .chan none, .chan none, .chan none, .chan none, .chan none, .chan none, .chan none, .chan none, .chan none]) (n := 10) rfl ⟨1, rfl, by omega, by omega, by omega, by omega, rfl, rfl⟩ ?_
  rintro q a L ⟨n, rfl, hn1, hn2, hnb, hg, rfl, rfl⟩
  have hgl := gat_len bs
  have hgs := gat_small bs
  by_cases hin : n ≤ 10 ∧ n ≤ bs.length
  · have hb1 : ileB (n : Int) 10 = true := ileB_iff.2 (by omega)
    have hb2 : ileB (n : Int) (bs.length : Nat) = true := ileB_iff.2 (by omega)
    repeat refine LS.seq ?_
    refine LS.region rfl ?_
    refine OS.pure rfl (fun _ => rfl) rfl ?_
    refine OS.pure rfl (e_is (fun _ => rfl) (congrArg Value.bool hb1)) rfl ?_
    refine OS.pure rfl (fun _ => rfl) rfl ?_
    refine OS.pure rfl (fun _ => rfl) rfl ?_
    refine OS.pure rfl (fun _ => rfl) rfl ?_
    refine OS.pure rfl (fun _ => rfl) rfl ?_
    refine OS.pure rfl (fun _ => rfl) rfl ?_
    refine OS.read rfl (e_load 0 rfl rfl rfl rfl rfl) rfl ?_
    refine OS.pure rfl (e_len hv.sv rfl rfl rfl rfl rfl) rfl ?_
    refine OS.pure rfl (e_is (fun _ => rfl) (congrArg Value.bool hb2)) rfl ?_
    refine OS.pure rfl (fun _ => rfl) rfl ?_
    refine OS.nil ?_
    refine LS.cond rfl (fun hc => ?_) (fun hc => by cases hc)
    refine LS.skip ?_
    repeat refine LS.seq ?_
    refine LS.block ?_
    repeat refine LS.seq ?_
    refine LS.region rfl ?_
    refine OS.pure rfl (fun _ => rfl) rfl ?_
    refine OS.nil ?_
    repeat refine LS.seq ?_
    refine LS.region rfl ?_
    refine OS.pure rfl (fun _ => rfl) rfl ?_
    refine OS.pure rfl (fun _ => rfl) rfl ?_
    refine OS.nil ?_
    refine LS.mid [0, 4, 5] (fun a L => L = (r, rrRowOf v f) :: M ∧ a = [.pointer (some ⟨r, 0, none⟩), .chan none, .chan none, .chan none, .int .u64 (valB (bs.take n) % 18446744073709551616 : Nat), .int .i64 (n : Nat), .chan none, .chan none, .chan none, .chan none, .chan none, .chan none, .chan none, .chan none, .chan none, .chan none, .chan none, .chan none, .chan none, .chan none, .chan none, .chan none, .chan none, .chan none, .chan none, .chan none, .chan none, .chan none, .chan none, .chan none, .chan none, .chan none, .chan none, .chan none, .chan none, .chan none, .chan none, .chan none, .chan none, .chan none, .chan none, .chan none, .chan none, .chan none, .chan none, .chan none, .chan none, .chan none, .chan none, .chan none]) ?_ ?_
    · repeat refine LS.seq ?_
      refine LS.block ?_
      refine LS.loopJ [0, 4, 5, 6] (fun q a L => ∃ i, q = i ∧ i ≤ n ∧ L = (r, rrRowOf v f) :: M ∧ a = [.pointer (some ⟨r, 0, none⟩), .chan none, .chan none, .chan none, .int .u64 (valB ((bs.take n).drop i) % 18446744073709551616 : Nat), .int .i64 (n : Nat), .int .i64 (i : Nat), .chan none, .chan none, .chan none, .chan none, .chan none, .chan none, .chan none, .chan none, .chan none, .chan none, .chan none, .chan none, .chan none, .chan none, .chan none, .chan none, .chan none, .chan none, .chan none, .chan none, .chan none, .chan none, .chan none, .chan none, .chan none, .chan none, .chan none, .chan none, .chan none, .chan none, .chan none, .chan none, .chan none, .chan none, .chan none, .chan none, .chan none, .chan none, .chan none, .chan none, .chan none, .chan none, .chan none]) (n := n) rfl ⟨n, rfl, by omega, rfl, by rw [List.drop_eq_nil_of_le (by simp; omega)]; rfl⟩ ?_
      rintro q a L ⟨i, rfl, hi, rfl, rfl⟩
      by_cases h0 : 0 < q
      · have hb3 : (!ileB (q : Int) 0) = true := by rw [ileB_eq]; simp; omega
        have hget : bs[q - 1]? = some (bs[q - 1]'(by omega)) := List.getElem?_eq_getElem (by omega)
        have hgett : (bs.take n)[q - 1]? = some (bs[q - 1]'(by omega)) := by rw [List.getElem?_take, if_pos (by omega), hget]
        have hcb : (bs[q - 1]'(by omega)).toNat < 256 := (bs[q - 1]'(by omega)).toNat_lt
        have hd : (bs.take n).drop (q - 1) = (bs[q - 1]'(by omega)) :: (bs.take n).drop q := by
          have hlt : q - 1 < (bs.take n).length := by simp; omega
          rw [List.drop_eq_getElem_cons hlt]
          have : (bs.take n)[q - 1] = bs[q - 1]'(by omega) := by simp
          rw [this, show q - 1 + 1 = q by omega]
        generalize hx : valB ((bs.take n).drop q) = x at *
        generalize (bs[q - 1]'(by omega)) = b at *
        repeat refine LS.seq ?_
        refine LS.region rfl ?_
        refine OS.pure rfl (fun _ => rfl) rfl ?_
        refine OS.pure rfl (e_is (fun _ => rfl) (congrArg Value.bool hb3)) rfl ?_
        refine OS.nil ?_
        refine LS.cond rfl (fun hc => ?_) (fun hc => by cases hc)
        refine LS.skip ?_
        repeat refine LS.seq ?_
        refine LS.block ?_
        repeat refine LS.seq ?_
        refine LS.region rfl ?_
        refine OS.pure rfl (fun _ => rfl) rfl ?_
        refine OS.pure rfl (fun _ => rfl) rfl ?_
        refine OS.pure rfl (fun _ => rfl) rfl ?_
        refine OS.pure rfl (fun _ => rfl) rfl ?_
        refine OS.pure rfl (fun _ => rfl) rfl ?_
        refine OS.read rfl (e_load 0 rfl rfl rfl rfl rfl) rfl ?_
        refine OS.pure rfl (fun _ => rfl) rfl ?_
        refine OS.pure rfl (e_is (e_sub (m := (q : Nat)) (n := 1) rfl rfl rfl (in_i64 (by omega) (by omega))) (congrArg (Value.int .i64) (show ((q : Nat) : Int) - 1 = ((q - 1 : Nat) : Int) by omega))) rfl ?_
        refine OS.at1 (j := q - 1) hv.sv.cons (byteCells_get hget) rfl rfl rfl rfl rfl rfl (fun r0 o0 row0 cs0 m0 c0 g0 => ?_)
        refine ⟨_, rfl, ?_⟩
        refine OS.read rfl (e_loadm m0 c0 rfl rfl (part_one rfl g0)) rfl ?_
        refine OS.pure rfl (e_rem (n := 128) rfl rfl rfl (by decide)) rfl ?_
        refine OS.pure rfl (e_conv rfl rfl rfl rfl (in_u64 (by omega) (by omega))) rfl ?_
        have key : wrapB IntKind.u64 (wrapB IntKind.u64 (128 * ((x % 18446744073709551616 : Nat) : Int)) + ((b.toNat % 128 : Nat) : Int)) = ((valB ((bs.take n).drop (q - 1)) % 18446744073709551616 : Nat) : Int) := by
          rw [hd]
          simp only [valB, hx, wrapB_eq, Am.wrap_u64]
          omega
        refine OS.pure rfl (e_is (fun _ => rfl) (congrArg (Value.int .u64) key)) rfl ?_
        refine OS.pure rfl (fun _ => rfl) rfl ?_
        refine OS.nil ?_
        repeat refine LS.seq ?_
        refine LS.region rfl ?_
        refine OS.pure rfl (fun _ => rfl) rfl ?_
        refine OS.pure rfl (e_is (e_sub (m := (q : Nat)) (n := 1) rfl rfl rfl (in_i64 (by omega) (by omega))) (congrArg (Value.int .i64) (show ((q : Nat) : Int) - 1 = ((q - 1 : Nat) : Int) by omega))) rfl ?_
        refine OS.pure rfl (fun _ => rfl) rfl ?_
        refine OS.nil ?_
        exact ⟨q - 1, by omega, q - 1, rfl, by omega, rfl, rfl⟩
      · have hb3 : (!ileB (q : Int) 0) = false := by rw [ileB_eq]; simp; omega
        have hq : q = 0 := by omega
        subst hq
        repeat refine LS.seq ?_
        refine LS.region rfl ?_
        refine OS.pure rfl (fun _ => rfl) rfl ?_
        refine OS.pure rfl (e_is (fun _ => rfl) (congrArg Value.bool hb3)) rfl ?_
        refine OS.nil ?_
        refine LS.cond rfl (fun hc => by cases hc) (fun hc => ?_)
        refine LS.exit ?_
        exact ⟨rfl, rfl⟩
    rintro a L ⟨rfl, rfl⟩
    generalize hu : valB (bs.take n) % 18446744073709551616 = u at *
    have hul : u < 18446744073709551616 := by rw [← hu]; exact Nat.mod_lt _ (by omega)
    have hiff : (grp u = bs.take n) ↔ (gat bs).2 = n := by
      constructor
      · intro h
        have hp : grp u <+: bs := by rw [h]; exact List.take_prefix _ _
        rw [gat_some hul hp]
        simp only
        rw [h]; simp; omega
      · intro h
        rcases gat_inv bs with h0 | ⟨w, hp, he, hw⟩
        · rw [h0] at h; simp only at h; omega
        · rw [he] at h
          simp only at h
          obtain ⟨rest, hrest⟩ := hp
          have ht : bs.take n = grp w := by rw [← hrest, ← h, List.take_left]
          rw [ht, ← hu, ht, valB_grp, Nat.mod_eq_of_lt hw]
    repeat refine LS.seq ?_
    refine LS.drawn noGo mixed [(0, false), (1, false), (2, false), (3, false), (4, false), (5, false), (6, false), (7, false), (8, false), (9, false)] rfl rfl (by kernel_rfl) ?_
    refine ODS.pure rfl rfl (fun _ => rfl) rfl ?_
    refine ODS.still rfl rfl (fun _ => rfl) (CQ.still (groups_cs u hul) rfl) rfl ?_
    refine ODS.pure rfl rfl (fun _ => rfl) rfl ?_
    refine ODS.pure rfl rfl (fun _ => rfl) rfl ?_
    refine ODS.pure rfl rfl (fun _ => rfl) rfl ?_
    refine ODS.read rfl rfl (e_load 0 rfl rfl rfl rfl rfl) rfl ?_
    refine ODS.pure rfl rfl (fun _ => rfl) rfl ?_
    refine ODS.cutT (T := M) (l := 0) (u := n) (fun p hp => List.mem_cons_of_mem _ hp) hv rfl rfl rfl rfl rfl rfl rfl bound_nat rfl rfl (by omega) (by omega) (fun v' hv' => ?_)
    refine ⟨_, rfl, ?_⟩
    rw [List.drop_zero, Nat.sub_zero] at hv'
    refine ODS.read rfl rfl (e_textSV hv'.sv.cons rfl rfl rfl rfl rfl) rfl ?_
    by_cases hm : (gat bs).2 = n
    · have hgr := hiff.2 hm
      have hb4 : bytesEq (grp u) (bs.take n) = true := by rw [bytesEq_eq, hgr]; simp
      refine ODS.pure rfl rfl (e_is (fun _ => rfl) (congrArg Value.bool hb4)) rfl ?_
      refine ODS.nil ?_
      refine LS.cond rfl (fun hc => ?_) (fun hc => by cases hc)
      repeat refine LS.seq ?_
      refine LS.region rfl ?_
      refine OS.pure rfl (fun _ => rfl) rfl ?_
      refine OS.pure rfl (fun _ => rfl) rfl ?_
      refine OS.pure rfl (fun _ => rfl) rfl ?_
      refine OS.pure rfl (fun _ => rfl) rfl ?_
      refine OS.nil ?_
      refine LS.ret ⟨_, fun _ _ => rfl, ?_⟩
      have hp : grp u <+: bs := by rw [hgr]; exact List.take_prefix _ _
      have he := gat_some hul hp
      refine ⟨?_, rfl⟩
      rw [show (gat bs).1 = u by rw [he], hm]
      rfl
    · have hgr : grp u ≠ bs.take n := fun h => hm (hiff.1 h)
      have hb4 : bytesEq (grp u) (bs.take n) = false := by rw [bytesEq_eq]; simpa using hgr
      refine ODS.pure rfl rfl (e_is (fun _ => rfl) (congrArg Value.bool hb4)) rfl ?_
      refine ODS.nil ?_
      refine LS.cond rfl (fun hc => by cases hc) (fun hc => ?_)
      refine LS.skip ?_
      repeat refine LS.seq ?_
      refine LS.region rfl ?_
      refine OS.pure rfl (fun _ => rfl) rfl ?_
      refine OS.pure rfl (e_add rfl rfl rfl (in_i64 (by omega) (by omega))) rfl ?_
      refine OS.pure rfl (fun _ => rfl) rfl ?_
      refine OS.nil ?_
      exact ⟨11 - (n + 1), by omega, n + 1, rfl, by omega, by omega, by omega, by omega, rfl, rfl⟩
  · have hz : gat bs = (0, 0) := by
      rcases gat_inv bs with h0 | ⟨w, hp, he, hw⟩
      · exact h0
      · have := grp_pos w
        have : (gat bs).2 = (grp w).length := by rw [he]
        omega
    by_cases h10 : n ≤ 10
    · have hb1 : ileB (n : Int) 10 = true := ileB_iff.2 (by omega)
      have hb2 : ileB (n : Int) (bs.length : Nat) = false := by rw [ileB_eq]; simp; omega
      repeat refine LS.seq ?_
      refine LS.region rfl ?_
      refine OS.pure rfl (fun _ => rfl) rfl ?_
      refine OS.pure rfl (e_is (fun _ => rfl) (congrArg Value.bool hb1)) rfl ?_
      refine OS.pure rfl (fun _ => rfl) rfl ?_
      refine OS.pure rfl (fun _ => rfl) rfl ?_
      refine OS.pure rfl (fun _ => rfl) rfl ?_
      refine OS.pure rfl (fun _ => rfl) rfl ?_
      refine OS.pure rfl (fun _ => rfl) rfl ?_
      refine OS.read rfl (e_load 0 rfl rfl rfl rfl rfl) rfl ?_
      refine OS.pure rfl (e_len hv.sv rfl rfl rfl rfl rfl) rfl ?_
      refine OS.pure rfl (e_is (fun _ => rfl) (congrArg Value.bool hb2)) rfl ?_
      refine OS.pure rfl (fun _ => rfl) rfl ?_
      refine OS.nil ?_
      refine LS.cond rfl (fun hc => by cases hc) (fun hc => ?_)
      refine LS.exit ?_
      repeat refine LS.seq ?_
      refine LS.region rfl ?_
      refine OS.pure rfl (fun _ => rfl) rfl ?_
      refine OS.pure rfl (fun _ => rfl) rfl ?_
      refine OS.nil ?_
      refine LS.ret ⟨_, fun _ _ => rfl, ?_⟩
      rw [hz]; exact ⟨rfl, rfl⟩
    · have hb1 : ileB (n : Int) 10 = false := by rw [ileB_eq]; simp; omega
      repeat refine LS.seq ?_
      refine LS.region rfl ?_
      refine OS.pure rfl (fun _ => rfl) rfl ?_
      refine OS.pure rfl (e_is (fun _ => rfl) (congrArg Value.bool hb1)) rfl ?_
      refine OS.pure rfl (fun _ => rfl) rfl ?_
      refine OS.skip rfl rfl ?_
      refine OS.skip rfl rfl ?_
      refine OS.skip rfl rfl ?_
      refine OS.skip rfl rfl ?_
      refine OS.skip rfl rfl ?_
      refine OS.skip rfl rfl ?_
      refine OS.skip rfl rfl ?_
      refine OS.pure rfl (fun _ => rfl) rfl ?_
      refine OS.nil ?_
      refine LS.cond rfl (fun hc => by cases hc) (fun hc => ?_)
      refine LS.exit ?_
      repeat refine LS.seq ?_
      refine LS.region rfl ?_
      refine OS.pure rfl (fun _ => rfl) rfl ?_
      refine OS.pure rfl (fun _ => rfl) rfl ?_
      refine OS.nil ?_
      refine LS.ret ⟨_, fun _ _ => rfl, ?_⟩
      rw [hz]; exact ⟨rfl, rfl⟩
/-- What has failed, or fails here. -/
theorem fail_post {α : Type} {mk : α → Value} {z t : α} {k r : Nat} {T M : RL} {bs : List UInt8} {f : Bool} (hf : f = true → bs = []) (hz : k = 0) : mk z = mk (tk z t k (bs, f)).1 ∧ RRR T M r (tk z t k (bs, f)).2 ((r, rrRowOf (.slice none 0 0) true) :: M) := by
  subst hz
  cases f with
  | true => rw [tk_failed]; exact ⟨rfl, _, rfl, .inl ⟨rfl, hf rfl⟩⟩
  | false => rw [tk_none]; exact ⟨rfl, _, rfl, .inl ⟨rfl, rfl⟩⟩
theorem gat_nil : gat [] = (0, 0) := rfl
theorem rcount_ct {M : RL} {r : Nat} {v : Value} {f : Bool} {bs : List UInt8} {most : Int} (h0 : -9223372036854775808 ≤ most) (h1 : most ≤ 9223372036854775807) (hv : OV M v bs) (hn : bs.length ≤ 9223372036854775807) :
    CS Try.prog 66 [.pointer (some ⟨r, 0, none⟩), .int .i64 most] ((r, rrRowOf v f) :: M) fun v' L' => v' = .tuple #[.int .i64 ((cAt bs most).1 : Nat), .int .i64 ((cAt bs most).2 : Nat)] ∧ L' = (r, rrRowOf v f) :: M := by
  have hg := gat_lt bs
  refine CS.mk (fn := Try.f66) rfl rfl rfl rfl ?_
  repeat refine LS.seq ?_
  refine LS.region rfl ?_
  refine OS.pure rfl (fun _ => rfl) rfl ?_
  refine OS.pure rfl (fun _ => rfl) rfl ?_
  refine OS.nil ?_
  repeat refine LS.seq ?_
  refine LS.region rfl ?_
  refine OS.pure rfl (fun _ => rfl) rfl ?_
  refine OS.call noGo rfl (fun _ => rfl) ((off_ct hv hn).mono ?_)
  rintro v' L' ⟨rfl, rfl⟩
  refine ⟨_, rfl, ?_⟩
  refine OS.pure rfl (fun _ => rfl) rfl ?_
  refine OS.pure rfl (fun _ => rfl) rfl ?_
  refine OS.pure rfl (fun _ => rfl) rfl ?_
  refine OS.pure rfl (fun _ => rfl) rfl ?_
  refine OS.pure rfl (fun _ => rfl) rfl ?_
  refine OS.nil ?_
  by_cases hz : (gat bs).2 = 0
  · have hg0 : gat bs = (0, 0) := by
      rcases gat_inv bs with h | ⟨w, hp, he, hw⟩
      · exact h
      · have := grp_pos w
        have : (gat bs).2 = (grp w).length := by rw [he]
        omega
    have hc0 : cAt bs most = (0, 0) := by unfold cAt; split <;> simp [hg0]
    have hb1 : ieqB ((gat bs).2 : Int) 0 = true := by rw [ieqB_eq]; simp; omega
    repeat refine LS.seq ?_
    refine LS.region rfl ?_
    refine OS.pure rfl (fun _ => rfl) rfl ?_
    refine OS.pure rfl (e_is (fun _ => rfl) (congrArg Value.bool hb1)) rfl ?_
    refine OS.pure rfl (fun _ => rfl) rfl ?_
    refine OS.skip rfl rfl ?_
    refine OS.skip rfl rfl ?_
    refine OS.pure rfl (fun _ => rfl) rfl ?_
    refine OS.pure rfl (fun _ => rfl) rfl ?_
    refine OS.skip rfl rfl ?_
    refine OS.skip rfl rfl ?_
    refine OS.skip rfl rfl ?_
    refine OS.skip rfl rfl ?_
    refine OS.pure rfl (fun _ => rfl) rfl ?_
    refine OS.nil ?_
    refine LS.cond rfl (fun hc => ?_) (fun hc => by cases hc)
    repeat refine LS.seq ?_
    refine LS.region rfl ?_
    refine OS.pure rfl (fun _ => rfl) rfl ?_
    refine OS.pure rfl (fun _ => rfl) rfl ?_
    refine OS.nil ?_
    refine LS.ret ⟨_, fun _ _ => rfl, ?_⟩
    rw [hc0]; exact ⟨rfl, rfl⟩
  have hb1 : ieqB ((gat bs).2 : Int) 0 = false := by rw [ieqB_eq]; simp; omega
  by_cases hbig : 2147483647 < (gat bs).1
  · have hb2 : (!ileB ((gat bs).1 : Int) 2147483647) = true := by rw [ileB_eq]; simp; omega
    repeat refine LS.seq ?_
    refine LS.region rfl ?_
    refine OS.pure rfl (fun _ => rfl) rfl ?_
    refine OS.pure rfl (e_is (fun _ => rfl) (congrArg Value.bool hb1)) rfl ?_
    refine OS.pure rfl (fun _ => rfl) rfl ?_
    refine OS.pure rfl (fun _ => rfl) rfl ?_
    refine OS.pure rfl (e_is (fun _ => rfl) (congrArg Value.bool hb2)) rfl ?_
    refine OS.pure rfl (fun _ => rfl) rfl ?_
    refine OS.pure rfl (fun _ => rfl) rfl ?_
    refine OS.skip rfl rfl ?_
    refine OS.skip rfl rfl ?_
    refine OS.skip rfl rfl ?_
    refine OS.skip rfl rfl ?_
    refine OS.pure rfl (fun _ => rfl) rfl ?_
    refine OS.nil ?_
    refine LS.cond rfl (fun hc => ?_) (fun hc => by cases hc)
    repeat refine LS.seq ?_
    refine LS.region rfl ?_
    refine OS.pure rfl (fun _ => rfl) rfl ?_
    refine OS.pure rfl (fun _ => rfl) rfl ?_
    refine OS.nil ?_
    refine LS.ret ⟨_, fun _ _ => rfl, ?_⟩
    rw [cAt_no (by omega)]; exact ⟨rfl, rfl⟩
  have hb2 : (!ileB ((gat bs).1 : Int) 2147483647) = false := by rw [ileB_eq]; simp; omega
  repeat refine LS.seq ?_
  refine LS.region rfl ?_
  refine OS.pure rfl (fun _ => rfl) rfl ?_
  refine OS.pure rfl (e_is (fun _ => rfl) (congrArg Value.bool hb1)) rfl ?_
  refine OS.pure rfl (fun _ => rfl) rfl ?_
  refine OS.pure rfl (fun _ => rfl) rfl ?_
  refine OS.pure rfl (e_is (fun _ => rfl) (congrArg Value.bool hb2)) rfl ?_
  refine OS.pure rfl (fun _ => rfl) rfl ?_
  refine OS.pure rfl (fun _ => rfl) rfl ?_
  refine OS.pure rfl (fun _ => rfl) rfl ?_
  refine OS.pure rfl (fun _ => rfl) rfl ?_
  refine OS.pure rfl (e_conv rfl rfl rfl rfl (in_i64 (by omega) (by omega))) rfl ?_
  refine OS.pure rfl (fun _ => rfl) rfl ?_
  refine OS.pure rfl (fun _ => rfl) rfl ?_
  refine OS.nil ?_
  refine LS.cond (b := !ileB ((gat bs).1 : Int) most) rfl (fun hc => ?_) (fun hc => ?_)
  · have hc := lt_of hc
    repeat refine LS.seq ?_
    refine LS.region rfl ?_
    refine OS.pure rfl (fun _ => rfl) rfl ?_
    refine OS.pure rfl (fun _ => rfl) rfl ?_
    refine OS.nil ?_
    refine LS.ret ⟨_, fun _ _ => rfl, ?_⟩
    rw [cAt_no (by omega)]; exact ⟨rfl, rfl⟩
  · have hc := nlt_of hc
    refine LS.skip ?_
    repeat refine LS.seq ?_
    refine LS.region rfl ?_
    refine OS.pure rfl (fun _ => rfl) rfl ?_
    refine OS.pure rfl (e_conv rfl rfl rfl rfl (in_i64 (by omega) (by omega))) rfl ?_
    refine OS.pure rfl (fun _ => rfl) rfl ?_
    refine OS.pure rfl (fun _ => rfl) rfl ?_
    refine OS.pure rfl (fun _ => rfl) rfl ?_
    refine OS.nil ?_
    refine LS.ret ⟨_, fun _ _ => rfl, ?_⟩
    rw [cAt_yes (by omega) (by omega) (by omega)]; exact ⟨rfl, rfl⟩
theorem rCountT_ct {M : RL} {r : Nat} {bs : List UInt8} {f : Bool} {v : Value} {most : Int} (h0 : -9223372036854775808 ≤ most) (h1 : most ≤ 9223372036854775807) {T : RL} (hT : ∀ p, p ∈ T → p ∈ M) (hv : OV T v bs) (hf : f = true → bs = []) (hn : bs.length ≤ 9223372036854775807) :
    CS Try.prog 36 [.pointer (some ⟨r, 0, none⟩), .int .i64 most] ((r, rrRowOf v f) :: M) fun v' L' => v' = .int .i64 (tk (0 : Int) ((cAt bs most).1 : Int) (cAt bs most).2 (bs, f)).1 ∧ RRR T M r (tk (0 : Int) ((cAt bs most).1 : Int) (cAt bs most).2 (bs, f)).2 L' := by
  obtain ⟨hc1, hc2, hc3⟩ := cAt_le bs most
  refine CS.mk (fn := Try.f36) rfl rfl rfl rfl ?_
  repeat refine LS.seq ?_
  refine LS.region rfl ?_
  refine OS.pure rfl (fun _ => rfl) rfl ?_
  refine OS.nil ?_
  repeat refine LS.seq ?_
  refine LS.region rfl ?_
  refine OS.pure rfl (fun _ => rfl) rfl ?_
  refine OS.pure rfl (fun _ => rfl) rfl ?_
  refine OS.call noGo rfl (fun _ => rfl) ((rcount_ct h0 h1 (hv.mono hT) hn).mono ?_)
  rintro v' L' ⟨rfl, rfl⟩
  refine ⟨_, rfl, ?_⟩
  refine OS.pure rfl (fun _ => rfl) rfl ?_
  refine OS.pure rfl (fun _ => rfl) rfl ?_
  refine OS.pure rfl (fun _ => rfl) rfl ?_
  refine OS.pure rfl (fun _ => rfl) rfl ?_
  refine OS.pure rfl (fun _ => rfl) rfl ?_
  refine OS.nil ?_
  by_cases hz : (cAt bs most).2 = 0
  · have hb1 : ieqB ((cAt bs most).2 : Int) 0 = true := by rw [ieqB_eq]; simp; omega
    repeat refine LS.seq ?_
    refine LS.region rfl ?_
    refine OS.pure rfl (fun _ => rfl) rfl ?_
    refine OS.pure rfl (e_is (fun _ => rfl) (congrArg Value.bool hb1)) rfl ?_
    refine OS.nil ?_
    refine LS.cond rfl (fun hc => ?_) (fun hc => by cases hc)
    repeat refine LS.seq ?_
    refine LS.region rfl ?_
    refine OS.pure rfl (fun _ => rfl) rfl ?_
    refine OS.call noGo rfl (fun _ => rfl) ((rfails_ct).mono ?_)
    rintro v' L' rfl
    refine ⟨_, rfl, ?_⟩
    refine OS.nil ?_
    repeat refine LS.seq ?_
    refine LS.region rfl ?_
    refine OS.pure rfl (fun _ => rfl) rfl ?_
    refine OS.nil ?_
    refine LS.ret ⟨_, fun _ _ => rfl, ?_⟩
    exact fail_post (mk := Value.int .i64) hf hz
  · have hff : f = false := by
      cases f with
      | false => rfl
      | true => have hb0 := hf rfl; subst hb0; simp at hc3; exact absurd hc3 hz
    subst hff
    have hb1 : ieqB ((cAt bs most).2 : Int) 0 = false := by rw [ieqB_eq]; simp; omega
    repeat refine LS.seq ?_
    refine LS.region rfl ?_
    refine OS.pure rfl (fun _ => rfl) rfl ?_
    refine OS.pure rfl (e_is (fun _ => rfl) (congrArg Value.bool hb1)) rfl ?_
    refine OS.nil ?_
    refine LS.cond rfl (fun hc => by cases hc) (fun hc => ?_)
    refine LS.skip ?_
    repeat refine LS.seq ?_
    refine LS.region rfl ?_
    refine OS.pure rfl (fun _ => rfl) rfl ?_
    refine OS.pure rfl (fun _ => rfl) rfl ?_
    refine OS.pure rfl (fun _ => rfl) rfl ?_
    refine OS.pure rfl (fun _ => rfl) rfl ?_
    refine OS.read rfl (e_load 0 rfl rfl rfl rfl rfl) rfl ?_
    refine OS.pure rfl (fun _ => rfl) rfl ?_
    refine OS.cutT (l := (cAt bs most).2) (u := bs.length) (fun p hp => List.mem_cons_of_mem _ (hT p hp)) hv rfl rfl rfl rfl rfl bound_nat rfl rfl rfl (by omega) (by omega) (fun v' hv' => ?_)
    rw [List.take_of_length_le (by simp)] at hv'
    have hone := OV.one hv'
    refine ⟨_, rfl, ?_⟩
    refine OS.pure rfl (fun _ => rfl) rfl ?_
    refine OS.pure rfl (fun _ => rfl) rfl ?_
    refine OS.write rfl (e_store 0 (n := 1) (cs' := [v', .bool false]) rfl rfl rfl rfl rfl (by rw [hone.1, hone.2]; rfl) (by rw [hone.2]; rfl) rfl) rfl ?_
    refine OS.nil ?_
    rw [tk_some hz]
    repeat refine LS.seq ?_
    refine LS.region rfl ?_
    refine OS.pure rfl (fun _ => rfl) rfl ?_
    refine OS.pure rfl (fun _ => rfl) rfl ?_
    refine OS.nil ?_
    refine LS.ret ⟨_, fun _ _ => rfl, ?_⟩
    exact ⟨rfl, v', rfl, hv'⟩
theorem rStrT_ct {M : RL} {r : Nat} {bs : List UInt8} {f : Bool} {v : Value} {most : Int} (h0 : -9223372036854775808 ≤ most) (h1 : most ≤ 9223372036854775807) {T : RL} (hT : ∀ p, p ∈ T → p ∈ M) (hv : OV T v bs) (hf : f = true → bs = []) (hn : bs.length ≤ 9223372036854775807) :
    CS Try.prog 38 [.pointer (some ⟨r, 0, none⟩), .int .i64 most] ((r, rrRowOf v f) :: M) fun v' L' => v' = txt (tk ([] : List UInt8) (sAt bs most).1 (sAt bs most).2 (bs, f)).1 ∧ RRR T M r (tk ([] : List UInt8) (sAt bs most).1 (sAt bs most).2 (bs, f)).2 L' := by
  obtain ⟨hc1, hc2, hc3⟩ := cAt_le bs most
  have hse := sAt_eq (bs := bs) (most := most) (m := (cAt bs most).1) (hd := (cAt bs most).2) rfl
  refine CS.mk (fn := Try.f38) rfl rfl rfl rfl ?_
  repeat refine LS.seq ?_
  refine LS.region rfl ?_
  refine OS.pure rfl (fun _ => rfl) rfl ?_
  refine OS.nil ?_
  repeat refine LS.seq ?_
  refine LS.region rfl ?_
  refine OS.pure rfl (fun _ => rfl) rfl ?_
  refine OS.pure rfl (fun _ => rfl) rfl ?_
  refine OS.call noGo rfl (fun _ => rfl) ((rcount_ct h0 h1 (hv.mono hT) hn).mono ?_)
  rintro v' L' ⟨rfl, rfl⟩
  generalize (cAt bs most).1 = m at *
  generalize (cAt bs most).2 = hd at *
  refine ⟨_, rfl, ?_⟩
  refine OS.pure rfl (fun _ => rfl) rfl ?_
  refine OS.pure rfl (fun _ => rfl) rfl ?_
  refine OS.pure rfl (fun _ => rfl) rfl ?_
  refine OS.pure rfl (fun _ => rfl) rfl ?_
  refine OS.pure rfl (fun _ => rfl) rfl ?_
  refine OS.nil ?_
  have haddm : ((hd : Nat) : Int) + ((m : Nat) : Int) = ((hd + m : Nat) : Int) := by omega
  by_cases h0d : hd = 0
  · have hz : (sAt bs most).2 = 0 := by rw [hse, if_pos (.inl h0d)]
    have hb1 : ieqB ((hd : Nat) : Int) 0 = true := by rw [ieqB_eq]; simp; omega
    repeat refine LS.seq ?_
    refine LS.region rfl ?_
    refine OS.pure rfl (fun _ => rfl) rfl ?_
    refine OS.pure rfl (e_is (fun _ => rfl) (congrArg Value.bool hb1)) rfl ?_
    refine OS.pure rfl (fun _ => rfl) rfl ?_
    refine OS.skip rfl rfl ?_
    refine OS.skip rfl rfl ?_
    refine OS.skip rfl rfl ?_
    refine OS.skip rfl rfl ?_
    refine OS.skip rfl rfl ?_
    refine OS.skip rfl rfl ?_
    refine OS.skip rfl rfl ?_
    refine OS.skip rfl rfl ?_
    refine OS.skip rfl rfl ?_
    refine OS.pure rfl (fun _ => rfl) rfl ?_
    refine OS.nil ?_
    refine LS.cond rfl (fun hc => ?_) (fun hc => by cases hc)
    repeat refine LS.seq ?_
    refine LS.region rfl ?_
    refine OS.pure rfl (fun _ => rfl) rfl ?_
    refine OS.call noGo rfl (fun _ => rfl) ((rfails_ct).mono ?_)
    rintro v' L' rfl
    refine ⟨_, rfl, ?_⟩
    refine OS.nil ?_
    repeat refine LS.seq ?_
    refine LS.region rfl ?_
    refine OS.pure rfl (fun _ => rfl) rfl ?_
    refine OS.nil ?_
    refine LS.ret ⟨_, fun _ _ => rfl, ?_⟩
    exact fail_post (mk := txt) hf hz
  have hff : f = false := by
    cases f with
    | false => rfl
    | true => have hb0 := hf rfl; subst hb0; simp at hc3; exact absurd hc3 h0d
  subst hff
  have hb1 : ieqB ((hd : Nat) : Int) 0 = false := by rw [ieqB_eq]; simp; omega
  by_cases hlt : bs.length < hd + m
  · have hz : (sAt bs most).2 = 0 := by rw [hse, if_pos (.inr hlt)]
    have hb2 : (!ileB ((hd + m : Nat) : Int) (bs.length : Nat)) = true := by rw [ileB_eq]; simp; omega
    repeat refine LS.seq ?_
    refine LS.region rfl ?_
    refine OS.pure rfl (fun _ => rfl) rfl ?_
    refine OS.pure rfl (e_is (fun _ => rfl) (congrArg Value.bool hb1)) rfl ?_
    refine OS.pure rfl (fun _ => rfl) rfl ?_
    refine OS.pure rfl (fun _ => rfl) rfl ?_
    refine OS.pure rfl (fun _ => rfl) rfl ?_
    refine OS.pure rfl (e_is (e_add (m := (hd : Nat)) (n := (m : Nat)) rfl rfl rfl (in_i64 (by omega) (by omega))) (congrArg (Value.int .i64) haddm)) rfl ?_
    refine OS.pure rfl (fun _ => rfl) rfl ?_
    refine OS.pure rfl (fun _ => rfl) rfl ?_
    refine OS.pure rfl (fun _ => rfl) rfl ?_
    refine OS.read rfl (e_load 0 rfl rfl rfl rfl rfl) rfl ?_
    refine OS.pure rfl (e_len hv.sv rfl rfl rfl rfl rfl) rfl ?_
    refine OS.pure rfl (e_is (fun _ => rfl) (congrArg Value.bool hb2)) rfl ?_
    refine OS.pure rfl (fun _ => rfl) rfl ?_
    refine OS.nil ?_
    refine LS.cond rfl (fun hc => ?_) (fun hc => by cases hc)
    repeat refine LS.seq ?_
    refine LS.region rfl ?_
    refine OS.pure rfl (fun _ => rfl) rfl ?_
    refine OS.call noGo rfl (fun _ => rfl) ((rfails_ct).mono ?_)
    rintro v' L' rfl
    refine ⟨_, rfl, ?_⟩
    refine OS.nil ?_
    repeat refine LS.seq ?_
    refine LS.region rfl ?_
    refine OS.pure rfl (fun _ => rfl) rfl ?_
    refine OS.nil ?_
    refine LS.ret ⟨_, fun _ _ => rfl, ?_⟩
    exact fail_post (mk := txt) hf hz
  · have hb2 : (!ileB ((hd + m : Nat) : Int) (bs.length : Nat)) = false := by rw [ileB_eq]; simp; omega
    repeat refine LS.seq ?_
    refine LS.region rfl ?_
    refine OS.pure rfl (fun _ => rfl) rfl ?_
    refine OS.pure rfl (e_is (fun _ => rfl) (congrArg Value.bool hb1)) rfl ?_
    refine OS.pure rfl (fun _ => rfl) rfl ?_
    refine OS.pure rfl (fun _ => rfl) rfl ?_
    refine OS.pure rfl (fun _ => rfl) rfl ?_
    refine OS.pure rfl (e_is (e_add (m := (hd : Nat)) (n := (m : Nat)) rfl rfl rfl (in_i64 (by omega) (by omega))) (congrArg (Value.int .i64) haddm)) rfl ?_
    refine OS.pure rfl (fun _ => rfl) rfl ?_
    refine OS.pure rfl (fun _ => rfl) rfl ?_
    refine OS.pure rfl (fun _ => rfl) rfl ?_
    refine OS.read rfl (e_load 0 rfl rfl rfl rfl rfl) rfl ?_
    refine OS.pure rfl (e_len hv.sv rfl rfl rfl rfl rfl) rfl ?_
    refine OS.pure rfl (e_is (fun _ => rfl) (congrArg Value.bool hb2)) rfl ?_
    refine OS.pure rfl (fun _ => rfl) rfl ?_
    refine OS.nil ?_
    refine LS.cond rfl (fun hc => by cases hc) (fun hc => ?_)
    refine LS.skip ?_
    repeat refine LS.seq ?_
    refine LS.region rfl ?_
    refine OS.pure rfl (fun _ => rfl) rfl ?_
    refine OS.pure rfl (fun _ => rfl) rfl ?_
    refine OS.pure rfl (fun _ => rfl) rfl ?_
    refine OS.read rfl (e_load 0 rfl rfl rfl rfl rfl) rfl ?_
    refine OS.pure rfl (fun _ => rfl) rfl ?_
    refine OS.pure rfl (fun _ => rfl) rfl ?_
    refine OS.pure rfl (fun _ => rfl) rfl ?_
    refine OS.pure rfl (e_is (e_add (m := (hd : Nat)) (n := (m : Nat)) rfl rfl rfl (in_i64 (by omega) (by omega))) (congrArg (Value.int .i64) haddm)) rfl ?_
    refine OS.cutT (l := hd) (u := hd + m) (fun p hp => List.mem_cons_of_mem _ (hT p hp)) hv rfl rfl rfl rfl rfl bound_nat bound_nat rfl rfl (by omega) (by omega) (fun vs hvs => ?_)
    refine ⟨_, rfl, ?_⟩
    refine OS.read rfl (e_textSV (hvs.sv.mono fun p hp => List.mem_cons_of_mem _ (hT p hp)) rfl rfl rfl rfl rfl) rfl ?_
    refine OS.pure rfl (fun _ => rfl) rfl ?_
    refine OS.nil ?_
    repeat refine LS.seq ?_
    refine LS.region rfl ?_
    refine OS.pure rfl (fun _ => rfl) rfl ?_
    refine OS.pure rfl (fun _ => rfl) rfl ?_
    refine OS.pure rfl (fun _ => rfl) rfl ?_
    refine OS.pure rfl (fun _ => rfl) rfl ?_
    refine OS.read rfl (e_load 0 rfl rfl rfl rfl rfl) rfl ?_
    refine OS.pure rfl (fun _ => rfl) rfl ?_
    refine OS.pure rfl (fun _ => rfl) rfl ?_
    refine OS.pure rfl (e_is (e_add (m := (hd : Nat)) (n := (m : Nat)) rfl rfl rfl (in_i64 (by omega) (by omega))) (congrArg (Value.int .i64) haddm)) rfl ?_
    refine OS.cutT (l := hd + m) (u := bs.length) (fun p hp => List.mem_cons_of_mem _ (hT p hp)) hv rfl rfl rfl rfl rfl bound_nat rfl rfl rfl (by omega) (by omega) (fun v' hv' => ?_)
    rw [List.take_of_length_le (by simp)] at hv'
    have hone := OV.one hv'
    refine ⟨_, rfl, ?_⟩
    refine OS.pure rfl (fun _ => rfl) rfl ?_
    refine OS.pure rfl (fun _ => rfl) rfl ?_
    refine OS.write rfl (e_store 0 (n := 1) (cs' := [v', .bool false]) rfl rfl rfl rfl rfl (by rw [hone.1, hone.2]; rfl) (by rw [hone.2]; rfl) rfl) rfl ?_
    refine OS.nil ?_
    repeat refine LS.seq ?_
    refine LS.region rfl ?_
    refine OS.pure rfl (fun _ => rfl) rfl ?_
    refine OS.pure rfl (fun _ => rfl) rfl ?_
    refine OS.nil ?_
    refine LS.ret ⟨_, fun _ _ => rfl, ?_⟩
    rw [hse, if_neg (by omega), tk_some (by omega)]
    refine ⟨?_, v', rfl, hv'⟩
    rw [show hd + m - hd = m by omega]
    rfl
theorem rFlag_ct {M : RL} {r : Nat} {bs : List UInt8} {f : Bool} {v : Value} {T : RL} (hT : ∀ p, p ∈ T → p ∈ M) (hv : OV T v bs) (hf : f = true → bs = []) (hn : bs.length ≤ 9223372036854775807) :
    CS Try.prog 35 [.pointer (some ⟨r, 0, none⟩)] ((r, rrRowOf v f) :: M) fun v' L' => v' = .bool (tk false (fAt bs).1 (fAt bs).2 (bs, f)).1 ∧ RRR T M r (tk false (fAt bs).1 (fAt bs).2 (bs, f)).2 L' := by
  refine CS.mk (fn := Try.f35) rfl rfl rfl rfl ?_
  repeat refine LS.seq ?_
  refine LS.region rfl ?_
  refine OS.pure rfl (fun _ => rfl) rfl ?_
  refine OS.nil ?_
  cases bs with
  | nil =>
    have hz : (fAt []).2 = 0 := rfl
    repeat refine LS.seq ?_
    refine LS.region rfl ?_
    refine OS.pure rfl (fun _ => rfl) rfl ?_
    refine OS.pure rfl (fun _ => rfl) rfl ?_
    refine OS.pure rfl (fun _ => rfl) rfl ?_
    refine OS.read rfl (e_load 0 rfl rfl rfl rfl rfl) rfl ?_
    refine OS.pure rfl (e_len hv.sv rfl rfl rfl rfl rfl) rfl ?_
    refine OS.pure rfl (fun _ => rfl) rfl ?_
    refine OS.pure rfl (fun _ => rfl) rfl ?_
    refine OS.skip rfl rfl ?_
    refine OS.skip rfl rfl ?_
    refine OS.skip rfl rfl ?_
    refine OS.skip rfl rfl ?_
    refine OS.skip rfl rfl ?_
    refine OS.skip rfl rfl ?_
    refine OS.skip rfl rfl ?_
    refine OS.pure rfl (fun _ => rfl) rfl ?_
    refine OS.nil ?_
    refine LS.cond rfl (fun hc => ?_) (fun hc => by cases hc)
    repeat refine LS.seq ?_
    refine LS.region rfl ?_
    refine OS.pure rfl (fun _ => rfl) rfl ?_
    refine OS.call noGo rfl (fun _ => rfl) ((rfails_ct).mono ?_)
    rintro v' L' rfl
    refine ⟨_, rfl, ?_⟩
    refine OS.nil ?_
    repeat refine LS.seq ?_
    refine LS.region rfl ?_
    refine OS.pure rfl (fun _ => rfl) rfl ?_
    refine OS.nil ?_
    refine LS.ret ⟨_, fun _ _ => rfl, ?_⟩
    exact fail_post (mk := Value.bool) hf hz
  | cons c bs =>
    have hff : f = false := by
      cases f with
      | false => rfl
      | true => exact absurd (hf rfl) (by simp)
    subst hff
    have hb1 : ieqB (((c :: bs).length : Nat) : Int) 0 = false := by rw [ieqB_eq]; simp; omega
    have hget : (byteCells (c :: bs))[0]? = some (.int .u8 (c.toNat : Int)) := rfl
    have hvM := ((hv.mono hT).cons (x := (r, rrRowOf v false))).sv
    repeat refine LS.seq ?_
    refine LS.region rfl ?_
    refine OS.pure rfl (fun _ => rfl) rfl ?_
    refine OS.pure rfl (fun _ => rfl) rfl ?_
    refine OS.pure rfl (fun _ => rfl) rfl ?_
    refine OS.read rfl (e_load 0 rfl rfl rfl rfl rfl) rfl ?_
    refine OS.pure rfl (e_len hv.sv rfl rfl rfl rfl rfl) rfl ?_
    refine OS.pure rfl (e_is (fun _ => rfl) (congrArg Value.bool hb1)) rfl ?_
    refine OS.pure rfl (fun _ => rfl) rfl ?_
    refine OS.pure rfl (fun _ => rfl) rfl ?_
    refine OS.pure rfl (fun _ => rfl) rfl ?_
    refine OS.pure rfl (fun _ => rfl) rfl ?_
    refine OS.read rfl (e_load 0 rfl rfl rfl rfl rfl) rfl ?_
    refine OS.at1 (j := 0) hvM hget rfl rfl rfl rfl rfl rfl (fun r0 o0 row0 cs0 m0 c0 g0 => ?_)
    refine ⟨_, rfl, ?_⟩
    refine OS.read rfl (e_loadm m0 c0 rfl rfl (part_one rfl g0)) rfl ?_
    refine OS.pure rfl (fun _ => rfl) rfl ?_
    refine OS.pure rfl (fun _ => rfl) rfl ?_
    refine OS.nil ?_
    refine LS.cond (b := !ileB (c.toNat : Int) 1) rfl (fun hc => ?_) (fun hc => ?_)
    · have hc := lt_of hc
      have hz : (fAt (c :: bs)).2 = 0 := by simp only [fAt]; rw [if_pos (by omega)]
      repeat refine LS.seq ?_
      refine LS.region rfl ?_
      refine OS.pure rfl (fun _ => rfl) rfl ?_
      refine OS.call noGo rfl (fun _ => rfl) ((rfails_ct).mono ?_)
      rintro v' L' rfl
      refine ⟨_, rfl, ?_⟩
      refine OS.nil ?_
      repeat refine LS.seq ?_
      refine LS.region rfl ?_
      refine OS.pure rfl (fun _ => rfl) rfl ?_
      refine OS.nil ?_
      refine LS.ret ⟨_, fun _ _ => rfl, ?_⟩
      exact fail_post (mk := Value.bool) hf hz
    · have hc := nlt_of hc
      have hfa : fAt (c :: bs) = (c == 1, 1) := by simp only [fAt]; rw [if_neg (by omega)]
      have he : ieqB (c.toNat : Int) 1 = (c == 1) := by
        rw [ieqB_eq]
        by_cases h : c = 1
        · subst h; rfl
        · have : c.toNat ≠ 1 := fun hh => h (UInt8.toNat_inj.1 hh)
          have h1 : ((c.toNat : Int) == 1) = false := by simpa using (show ¬ (c.toNat : Int) = 1 by omega)
          rw [h1]; simp [h]
      refine LS.skip ?_
      repeat refine LS.seq ?_
      refine LS.region rfl ?_
      refine OS.pure rfl (fun _ => rfl) rfl ?_
      refine OS.pure rfl (fun _ => rfl) rfl ?_
      refine OS.pure rfl (fun _ => rfl) rfl ?_
      refine OS.read rfl (e_load 0 rfl rfl rfl rfl rfl) rfl ?_
      refine OS.at1 (j := 0) hvM hget rfl rfl rfl rfl rfl rfl (fun r0 o0 row0 cs0 m0 c0 g0 => ?_)
      refine ⟨_, rfl, ?_⟩
      refine OS.read rfl (e_loadm m0 c0 rfl rfl (part_one rfl g0)) rfl ?_
      refine OS.pure rfl (e_is (fun _ => rfl) (congrArg Value.bool he)) rfl ?_
      refine OS.pure rfl (fun _ => rfl) rfl ?_
      refine OS.nil ?_
      repeat refine LS.seq ?_
      refine LS.region rfl ?_
      refine OS.pure rfl (fun _ => rfl) rfl ?_
      refine OS.pure rfl (fun _ => rfl) rfl ?_
      refine OS.pure rfl (fun _ => rfl) rfl ?_
      refine OS.pure rfl (fun _ => rfl) rfl ?_
      refine OS.read rfl (e_load 0 rfl rfl rfl rfl rfl) rfl ?_
      refine OS.cutT (l := 1) (u := (c :: bs).length) (fun p hp => List.mem_cons_of_mem _ (hT p hp)) hv rfl rfl rfl rfl rfl rfl rfl rfl rfl (by omega) (by simp) (fun v' hv' => ?_)
      rw [List.take_of_length_le (by simp)] at hv'
      have hone := OV.one hv'
      refine ⟨_, rfl, ?_⟩
      refine OS.pure rfl (fun _ => rfl) rfl ?_
      refine OS.pure rfl (fun _ => rfl) rfl ?_
      refine OS.write rfl (e_store 0 (n := 1) (cs' := [v', .bool false]) rfl rfl rfl rfl rfl (by rw [hone.1, hone.2]; rfl) (by rw [hone.2]; rfl) rfl) rfl ?_
      refine OS.nil ?_
      rw [hfa, tk_some (show (1 : Nat) ≠ 0 by decide)]
      repeat refine LS.seq ?_
      refine LS.region rfl ?_
      refine OS.pure rfl (fun _ => rfl) rfl ?_
      refine OS.pure rfl (fun _ => rfl) rfl ?_
      refine OS.nil ?_
      refine LS.ret ⟨_, fun _ _ => rfl, ?_⟩
      exact ⟨rfl, v', rfl, hv'⟩
theorem rNewReader_ct {L : RL} {b : Value} {n : Nat} {bs : List UInt8} (hb : SV 1 L b n (byteCells bs)) (hn : n ≤ 400000000000) :
    CS Try.prog 34 [b] L fun v L' => ∃ r X, v = .pointer (some ⟨r, 0, none⟩) ∧ RRR X (X ++ L) r (bs, false) L' := by
  have hl : bs.length = n := by have := hb.len; simpa [byteCells] using this
  refine CS.mk (fn := Try.f34) rfl rfl rfl rfl ?_
  repeat refine LS.seq ?_
  refine LS.region rfl ?_
  refine OS.pure rfl (fun _ => rfl) rfl ?_
  refine OS.nil ?_
  repeat refine LS.seq ?_
  refine LS.region rfl ?_
  refine OS.pure rfl (fun _ => rfl) rfl ?_
  refine OS.call noGo rfl (fun _ => rfl) ((behind_ct (s := []) hb hn (by decide)).mono ?_)
  rintro v L' hg
  rcases hg with ⟨rfl, hn0, hcs, rfl⟩ | ⟨rb, rfl, hlc, rfl⟩
  · refine ⟨_, rfl, ?_⟩
    refine OS.pure rfl (fun _ => rfl) rfl ?_
    refine OS.fresh rfl (e_new (fun _ => rfl) rfl) (fun _ => rfl) (fun r => ?_)
    refine OS.pure rfl (fun _ => rfl) rfl ?_
    refine OS.nil ?_
    refine LS.ret ⟨_, fun _ _ => rfl, ?_⟩
    exact ⟨r, [], rfl, _, rfl, .inl ⟨rfl, List.eq_nil_of_length_eq_zero (show bs.length = 0 by simp at hn0; omega)⟩⟩
  · refine ⟨_, rfl, ?_⟩
    refine OS.pure rfl (fun _ => rfl) rfl ?_
    refine OS.fresh rfl (e_new (fun _ => rfl) rfl) (fun _ => rfl) (fun r => ?_)
    refine OS.pure rfl (fun _ => rfl) rfl ?_
    refine OS.nil ?_
    refine LS.ret ⟨_, fun _ _ => rfl, ?_⟩
    rw [List.append_nil] at hlc ⊢
    exact ⟨r, [(rb, .cells 5 (byteCells bs))], rfl, _, rfl, .inr ⟨rb, 0, byteCells bs, by simp [hl], by simp, cut_all (byteCells_len bs)⟩⟩
end Go.Proofs.Ytdffhllecojgcaa.T
