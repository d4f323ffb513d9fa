/- Layer 1: what the calls of package code that lay things come to. -/
import Derived.Test.YtnfenpkkhkdkhaaAmE
import Derived.Test.YtnfenpkkhkdkhaaProg
import Derived.Test.YtnfenpkkhkdkhaaPure
import Derived.KernelRfl
namespace Go.Proofs.Ytnfenpkkhkdkhaa
open Go.Am
set_option linter.unusedVariables false
set_option maxRecDepth 20000

theorem noGo : Am.noGo Try.prog = true := by kernel_rfl
theorem mixed : Try.prog.follows .mixedOrders = true := by kernel_rfl

theorem own_ct {L : RL} {b : Value} {bs : List UInt8} {n room : Nat} (hb : SV 1 L b n (byteCells bs)) (hn : n ≤ 400000000000) (hr : room ≤ 400000000000) :
    CS Try.prog 51 [b, .int .i64 room] L fun v L' => ∃ r, v = .slice (some ⟨r, 0, none⟩) n openCap ∧ L' = (r, .cells 5 (byteCells bs)) :: L := by
  have hl : bs.length = n := by have := hb.len; simpa [byteCells] using this
  refine CS.mk (fn := Try.f51) rfl rfl rfl rfl ?_
  repeat refine LS.seq ?_
  refine LS.region rfl ?_
  refine OS.pure rfl (fun _ => rfl) rfl ?_
  refine OS.nil ?_
  repeat refine LS.seq ?_
  refine LS.region rfl ?_
  refine OS.pure rfl (fun _ => rfl) rfl ?_
  refine OS.pure rfl (e_len hb rfl rfl rfl rfl rfl) rfl ?_
  refine OS.pure rfl (fun _ => rfl) rfl ?_
  refine OS.pure rfl (e_add rfl rfl rfl (in_i64 (by omega) (by omega))) rfl ?_
  refine OS.fresh rfl (e_make (l := 0) (c := n + room) (e := 5) (sz := 1) (bts := 1) (zs := [.int .u8 0]) rfl rfl rfl rfl (by omega) (by omega) (by omega)) (fun _ => rfl) (fun r => ?_)
  refine OS.opened 9 0 (sz := 1) rfl rfl rfl (by rw [repL_len]; simp) (by unfold openCap; omega) rfl ?_
  refine OS.pure rfl (fun _ => rfl) rfl ?_
  refine OS.fresh rfl (e_appendSV 0 (sz := 1) (bts := 1) (old := []) hb.cons (byteCells_one bs) rfl rfl rfl (by omega) (by omega) rfl cut_zero rfl) (fun _ => rfl) (fun r2 => ?_)
  refine OS.pure rfl (fun _ => rfl) rfl ?_
  refine OS.nil ?_
  refine LS.ret ⟨_, fun _ _ => rfl, ?_⟩
  exact ⟨r2, by simp [tupleB], rfl⟩

theorem addGroups_ct (u : Nat) (hu : u < 18446744073709551616) {F : RL} {r n : Nat} {bs : List UInt8} (hn : n ≤ 500000000000) (hl : bs.length = n) :
    CS Try.prog 67 [.slice (some ⟨r, 0, none⟩) n openCap, .int .u64 u] ((r, .cells 5 (byteCells bs)) :: F) fun v L' => ∃ r, v = .slice (some ⟨r, 0, none⟩) (n + (grp u).length) openCap ∧ L' = (r, .cells 5 (byteCells (bs ++ grp u))) :: F := by
  have hg : (grp u).length ≤ 10 := grp_len (by omega) (by omega)
  refine CS.mk (fn := Try.f67) rfl rfl rfl rfl ?_
  repeat refine LS.seq ?_
  refine LS.region rfl ?_
  refine OS.pure rfl (fun _ => rfl) rfl ?_
  refine OS.nil ?_
  repeat refine LS.seq ?_
  refine LS.block ?_
  refine LS.loop (fun m a L => ∃ r k n b x1 x2 x3 x4 x5 x6 x7 x8 x9 x10 x11 x12 x13 x14 x15 x16, m = k ∧ b.length = n ∧ L = (r, .cells 5 (byteCells b)) :: F ∧ b ++ grp k = bs ++ grp u ∧ k ≤ u ∧ a = [.slice (some ⟨r, 0, none⟩) n openCap, .int .u64 (k : Nat), x1, x2, .slice none 0 0, x3, x4, x5, x6, x7, x8, x9, x10, x11, x12, x13, x14, x15, x16, undef, undef]) (n := u) ⟨r, u, n, bs, _, _, _, _, _, _, _, _, _, _, _, _, _, _, _, _, rfl, hl, rfl, rfl, Nat.le_refl _, rfl⟩ ?_
  rintro m a L ⟨r, k, n', b, x1, x2, x3, x4, x5, x6, x7, x8, x9, x10, x11, x12, x13, x14, x15, x16, rfl, hbl, rfl, hb, hk, rfl⟩
  have hlen : n' + (grp m).length = n + (grp u).length := by have := congrArg List.length hb; simpa [hl, hbl] using this
  repeat refine LS.seq ?_
  refine LS.region rfl ?_
  refine OS.pure rfl (fun _ => rfl) rfl ?_
  refine OS.pure rfl (fun _ => rfl) rfl ?_
  refine OS.nil ?_
  refine LS.cond rfl (fun hc => ?_) (fun hc => ?_)
  · refine LS.skip ?_
    have hc := le_of hc
    have hm : 128 ≤ m := by omega
    have hc8 : (UInt8.ofNat (m % 128 + 128)).toNat = m % 128 + 128 := toNat_of (by omega)
    refine LS.block ?_
    repeat refine LS.seq ?_
    refine LS.region rfl ?_
    refine OS.pure rfl (fun _ => rfl) rfl ?_
    refine OS.pure rfl (fun _ => rfl) rfl ?_
    refine OS.pure rfl (e_rem (n := 128) rfl rfl rfl (by decide)) rfl ?_
    refine OS.pure rfl (e_conv rfl rfl rfl rfl (in_u8 (by omega) (by omega))) rfl ?_
    refine OS.pure rfl (e_add rfl rfl rfl (in_u8 (by omega) (by omega))) rfl ?_
    refine OS.fresh rfl (e_new (fun _ => rfl) rfl) (fun _ => rfl) (fun r2 => ?_)
    refine OS.fresh rfl (e_appendSV 1 (sz := 1) (bts := 1) (SV.row (sz := 1) (n := 1) (List.mem_cons_self ..) rfl) rfl rfl rfl rfl (by omega) (by omega) rfl (cut_all (by rw [byteCells_len]; omega)) rfl) (fun _ => rfl) (fun r3 => ?_)
    refine OS.pure rfl (fun _ => rfl) rfl ?_
    refine OS.sub (Sub.drop 1 rfl) ?_
    refine OS.nil ?_
    repeat refine LS.seq ?_
    refine LS.region rfl ?_
    refine OS.pure rfl (fun _ => rfl) rfl ?_
    refine OS.pure rfl (e_quo (n := 128) rfl rfl rfl (by decide) (in_u64 (by omega) (by omega))) rfl ?_
    refine OS.pure rfl (fun _ => rfl) rfl ?_
    refine OS.nil ?_
    refine ⟨m / 128, by omega, r3, m / 128, _, b ++ [UInt8.ofNat (m % 128 + 128)], _, _, _, _, _, _, _, _, _, _, _, _, _, _, _, _, rfl, by simpa using hbl, ?_, ?_, by omega, rfl⟩
    · rw [byteCells_snoc]; rw [hc8]; rfl
    · rw [← hb, grp_ge hm]; simp
  · have hc := nle_of hc
    have hm : m < 128 := by omega
    have hc8 : (UInt8.ofNat m).toNat = m := toNat_of (by omega)
    rw [grp_lt hm] at hlen hb
    simp at hlen
    refine LS.exit ?_
    repeat refine LS.seq ?_
    refine LS.region rfl ?_
    refine OS.pure rfl (fun _ => rfl) rfl ?_
    refine OS.pure rfl (fun _ => rfl) rfl ?_
    refine OS.pure rfl (e_conv rfl rfl rfl rfl (in_u8 (by omega) (by omega))) rfl ?_
    refine OS.fresh rfl (e_new (fun _ => rfl) rfl) (fun _ => rfl) (fun r2 => ?_)
    refine OS.fresh rfl (e_appendSV 1 (sz := 1) (bts := 1) (SV.row (sz := 1) (n := 1) (List.mem_cons_self ..) rfl) rfl rfl rfl rfl (by omega) (by omega) rfl (cut_all (by rw [byteCells_len]; omega)) rfl) (fun _ => rfl) (fun r3 => ?_)
    refine OS.pure rfl (fun _ => rfl) rfl ?_
    refine OS.sub (Sub.drop 1 rfl) ?_
    refine OS.nil ?_
    refine LS.ret ⟨_, fun _ _ => rfl, ?_⟩
    exact ⟨r3, by simp [tupleB, hlen], by rw [byteCells_snoc (b := UInt8.ofNat m) _ (by rw [hc8]), hb]⟩

theorem fold_ct {L : RL} (n : Int) (h0 : -9223372036854775808 ≤ n) (h1 : n ≤ 9223372036854775807) : CS Try.prog 68 [.int .i64 n] L fun v L' => v = .int .u64 (zig n : Nat) ∧ L' = L := by
  refine CS.mk (fn := Try.f68) rfl rfl rfl rfl ?_
  repeat refine LS.seq ?_
  refine LS.region rfl ?_
  refine OS.pure rfl (fun _ => rfl) rfl ?_
  refine OS.nil ?_
  repeat refine LS.seq ?_
  refine LS.region rfl ?_
  refine OS.pure rfl (fun _ => rfl) rfl ?_
  refine OS.pure rfl (fun _ => rfl) rfl ?_
  refine OS.nil ?_
  refine LS.cond rfl (fun hc => ?_) (fun hc => ?_)
  · have hc := lt_of hc
    repeat refine LS.seq ?_
    refine LS.region rfl ?_
    refine OS.pure rfl (fun _ => rfl) rfl ?_
    refine OS.pure rfl (fun _ => rfl) rfl ?_
    refine OS.pure rfl (fun _ => rfl) rfl ?_
    refine OS.pure rfl (fun _ => rfl) rfl ?_
    refine OS.pure rfl (fun _ => rfl) rfl ?_
    refine OS.pure rfl (fun _ => rfl) rfl ?_
    refine OS.nil ?_
    refine LS.ret ⟨_, fun _ _ => rfl, ?_⟩
    have key : wrapB IntKind.u64 (wrapB IntKind.u64 (2 * wrapB IntKind.u64 (wrapB IntKind.i64 (0 - n))) - 1) = (zig n : Int) := by
      rw [zig_neg hc]
      simp only [wrapB_eq, IntKind.wrap_i64, wrap_u64]
      omega
    exact ⟨by rw [← key]; rfl, rfl⟩
  · have hc := nlt_of hc
    refine LS.skip ?_
    repeat refine LS.seq ?_
    refine LS.region rfl ?_
    refine OS.pure rfl (fun _ => rfl) rfl ?_
    refine OS.pure rfl (e_conv rfl rfl rfl rfl (in_u64 (by omega) (by omega))) rfl ?_
    refine OS.pure rfl (e_mul rfl rfl rfl (in_u64 (by omega) (by omega))) rfl ?_
    refine OS.pure rfl (fun _ => rfl) rfl ?_
    refine OS.nil ?_
    refine LS.ret ⟨_, fun _ _ => rfl, ?_⟩
    exact ⟨by rw [zig_pos hc]; rfl, rfl⟩

theorem isCount_ct {L : RL} (n : Int) : CS Try.prog 69 [.int .i64 n] L fun v L' => v = .bool (decide (0 ≤ n ∧ n ≤ 2147483647)) ∧ L' = L := by
  refine CS.mk (fn := Try.f69) rfl rfl rfl rfl ?_
  repeat refine LS.seq ?_
  refine LS.region rfl ?_
  refine OS.pure rfl (fun _ => rfl) rfl ?_
  refine OS.nil ?_
  by_cases h : 0 ≤ n
  · have hb : ileB 0 n = true := ileB_iff.2 h
    repeat refine LS.seq ?_
    refine LS.region rfl ?_
    refine OS.pure rfl (fun _ => rfl) rfl ?_
    refine OS.pure rfl (e_is (fun _ => rfl) (congrArg Value.bool hb)) rfl ?_
    refine OS.pure rfl (fun _ => rfl) rfl ?_
    refine OS.pure rfl (fun _ => rfl) rfl ?_
    refine OS.pure rfl (fun _ => rfl) rfl ?_
    refine OS.pure rfl (fun _ => rfl) rfl ?_
    refine OS.pure rfl (fun _ => rfl) rfl ?_
    refine OS.nil ?_
    refine LS.ret ⟨_, fun _ _ => rfl, ?_⟩
    refine ⟨?_, rfl⟩
    rw [ileB_eq]
    simp [h, tupleB]
  · have hb : ileB 0 n = false := by rw [ileB_eq]; simpa using h
    repeat refine LS.seq ?_
    refine LS.region rfl ?_
    refine OS.pure rfl (fun _ => rfl) rfl ?_
    refine OS.pure rfl (e_is (fun _ => rfl) (congrArg Value.bool hb)) rfl ?_
    refine OS.pure rfl (fun _ => rfl) rfl ?_
    refine OS.skip rfl rfl ?_
    refine OS.skip rfl rfl ?_
    refine OS.pure rfl (fun _ => rfl) rfl ?_
    refine OS.pure rfl (fun _ => rfl) rfl ?_
    refine OS.nil ?_
    refine LS.ret ⟨_, fun _ _ => rfl, ?_⟩
    refine ⟨?_, rfl⟩
    simp [h, tupleB]

theorem Num_ct {L : RL} {b : Value} {bs : List UInt8} {n : Nat} (m : Int) (h0 : -9223372036854775808 ≤ m) (h1 : m ≤ 9223372036854775807) (hb : SV 1 L b n (byteCells bs)) (hn : n ≤ 400000000000) :
    CS Try.prog 43 [b, .int .i64 m] L fun v L' => ∃ r, v = .slice (some ⟨r, 0, none⟩) (n + (grp (zig m)).length) openCap ∧ L' = (r, .cells 5 (byteCells (bs ++ grp (zig m)))) :: L := by
  have hl : bs.length = n := by have := hb.len; simpa [byteCells] using this
  refine CS.mk (fn := Try.f43) rfl rfl rfl rfl ?_
  repeat refine LS.seq ?_
  refine LS.region rfl ?_
  refine OS.pure rfl (fun _ => rfl) rfl ?_
  refine OS.nil ?_
  repeat refine LS.seq ?_
  refine LS.region rfl ?_
  refine OS.pure rfl (fun _ => rfl) rfl ?_
  refine OS.call noGo rfl (fun _ => rfl) ((own_ct (room := 10) hb hn (by omega)).mono ?_)
  rintro v L' ⟨r, rfl, rfl⟩
  refine ⟨_, rfl, ?_⟩
  refine OS.pure rfl (fun _ => rfl) rfl ?_
  refine OS.call noGo rfl (fun _ => rfl) ((fold_ct m h0 h1).mono ?_)
  rintro v L' ⟨rfl, rfl⟩
  refine ⟨_, rfl, ?_⟩
  refine OS.call noGo rfl (fun _ => rfl) ((addGroups_ct (zig m) (zig_lt h0 h1) (by omega) hl).mono ?_)
  rintro v L' ⟨r, rfl, rfl⟩
  refine ⟨_, rfl, ?_⟩
  refine OS.pure rfl (fun _ => rfl) rfl ?_
  refine OS.nil ?_
  refine LS.ret ⟨_, fun _ _ => rfl, ?_⟩
  exact ⟨r, rfl, rfl⟩

/-- The bytes of a count; none, if it is none. -/
def cnt (m : Int) : List UInt8 := if 0 ≤ m ∧ m ≤ 2147483647 then grp m.toNat else []
theorem Count_ct {L : RL} {b : Value} {bs : List UInt8} {n : Nat} (m : Int) (hb : SV 1 L b n (byteCells bs)) (hn : n ≤ 400000000000) :
    CS Try.prog 44 [b, .int .i64 m] L fun v L' => ∃ r, v = .slice (some ⟨r, 0, none⟩) (n + (cnt m).length) openCap ∧ L' = (r, .cells 5 (byteCells (bs ++ cnt m))) :: L := by
  have hl : bs.length = n := by have := hb.len; simpa [byteCells] using this
  refine CS.mk (fn := Try.f44) rfl rfl rfl rfl ?_
  repeat refine LS.seq ?_
  refine LS.region rfl ?_
  refine OS.pure rfl (fun _ => rfl) rfl ?_
  refine OS.nil ?_
  by_cases hm : 0 ≤ m ∧ m ≤ 2147483647
  · obtain ⟨k, rfl⟩ := Int.eq_ofNat_of_zero_le hm.1
    have hc : cnt (k : Int) = grp k := by unfold cnt; rw [if_pos hm]; rfl
    repeat refine LS.seq ?_
    refine LS.region rfl ?_
    refine OS.pure rfl (fun _ => rfl) rfl ?_
    refine OS.call noGo rfl (fun _ => rfl) ((isCount_ct _).mono ?_)
    rintro v L' ⟨rfl, rfl⟩
    rw [decide_eq_true hm]
    refine ⟨_, rfl, ?_⟩
    refine OS.pure rfl (fun _ => rfl) rfl ?_
    refine OS.nil ?_
    refine LS.cond rfl (fun h => ?_) (fun h => ?_)
    · cases h
    refine LS.skip ?_
    repeat refine LS.seq ?_
    refine LS.region rfl ?_
    refine OS.pure rfl (fun _ => rfl) rfl ?_
    refine OS.call noGo rfl (fun _ => rfl) ((own_ct (room := 5) hb hn (by omega)).mono ?_)
    rintro v L' ⟨r, rfl, rfl⟩
    refine ⟨_, rfl, ?_⟩
    refine OS.pure rfl (fun _ => rfl) rfl ?_
    refine OS.pure rfl (e_conv rfl rfl rfl rfl (in_u64 (by omega) (by omega))) rfl ?_
    refine OS.call noGo rfl (fun _ => rfl) ((addGroups_ct k (by omega) (by omega) hl).mono ?_)
    rintro v L' ⟨r, rfl, rfl⟩
    refine ⟨_, rfl, ?_⟩
    refine OS.pure rfl (fun _ => rfl) rfl ?_
    refine OS.nil ?_
    refine LS.ret ⟨_, fun _ _ => rfl, ?_⟩
    rw [hc]
    exact ⟨r, rfl, rfl⟩
  · have hc : cnt m = [] := by unfold cnt; rw [if_neg hm]
    repeat refine LS.seq ?_
    refine LS.region rfl ?_
    refine OS.pure rfl (fun _ => rfl) rfl ?_
    refine OS.call noGo rfl (fun _ => rfl) ((isCount_ct _).mono ?_)
    rintro v L' ⟨rfl, rfl⟩
    rw [decide_eq_false hm]
    refine ⟨_, rfl, ?_⟩
    refine OS.pure rfl (fun _ => rfl) rfl ?_
    refine OS.nil ?_
    refine LS.cond rfl (fun h => ?_) (fun h => ?_)
    · repeat refine LS.seq ?_
      refine LS.region rfl ?_
      refine OS.pure rfl (fun _ => rfl) rfl ?_
      refine OS.call noGo rfl (fun _ => rfl) ((own_ct (room := 0) hb hn (by omega)).mono ?_)
      rintro v L' ⟨r, rfl, rfl⟩
      refine ⟨_, rfl, ?_⟩
      refine OS.pure rfl (fun _ => rfl) rfl ?_
      refine OS.nil ?_
      refine LS.ret ⟨_, fun _ _ => rfl, ?_⟩
      rw [hc]
      exact ⟨r, rfl, by simp⟩
    · cases h

theorem e_append_text (i : Nat) {P : Program} {a : Slots} {o : Oper} {L L₁ : RL} {c : Call} {e : TypeId} {bts len n r off : Nat} {s : List UInt8} {old cs : List Value} (ho : o.op = .call c) (hT : appT P c = some (e, 1, bts)) (ha : evs a c.args.toList = some [.slice (some ⟨r, off, none⟩) len openCap, .string ⟨⟨s⟩⟩])
    (hn : n = s.length) (hsm : (len + n) * bts ≤ 1000000000000) (hsm2 : len + n ≤ 1000000000000) (hL : L[i]? = some (r, .cells e cs)) (hcut : cut cs off (len * 1) = some old) (hd : dropL L i = some L₁) :
    ∀ h, Has h L → ∃ r' h₁, opB P a o h = some (.val (.slice (some ⟨r', 0, none⟩) (len + n) openCap) h₁) ∧ Has h₁ ((r', .cells e (old ++ byteCells s)) :: L₁) :=
  e_append i ho hT ha (by rw [hn]; rfl) (first_text hn) (by rw [byteCells_one]; rfl) hsm hsm2 hL hcut hd

theorem Str_ct {L : RL} {b : Value} {bs s : List UInt8} {n : Nat} (hs : s.length ≤ 200000) (hb : SV 1 L b n (byteCells bs)) (hn : n ≤ 300000000000) :
    CS Try.prog 45 [b, .string ⟨⟨s⟩⟩] L fun v L' => ∃ r, v = .slice (some ⟨r, 0, none⟩) (n + ((cnt s.length).length + s.length)) openCap ∧ L' = (r, .cells 5 (byteCells (bs ++ (cnt s.length ++ s)))) :: L := by
  have hl : bs.length = n := by have := hb.len; simpa [byteCells] using this
  have hm : 0 ≤ (s.length : Int) ∧ (s.length : Int) ≤ 2147483647 := by omega
  have hc : cnt (s.length : Int) = grp s.length := by unfold cnt; rw [if_pos hm]; rfl
  have hg : (grp s.length).length ≤ 10 := grp_len (by omega) (by omega)
  refine CS.mk (fn := Try.f45) rfl rfl rfl rfl ?_
  repeat refine LS.seq ?_
  refine LS.region rfl ?_
  refine OS.pure rfl (fun _ => rfl) rfl ?_
  refine OS.nil ?_
  repeat refine LS.seq ?_
  refine LS.region rfl ?_
  refine OS.pure rfl (fun _ => rfl) rfl ?_
  refine OS.pure rfl (fun _ => rfl) rfl ?_
  refine OS.call noGo rfl (fun _ => rfl) ((isCount_ct s.length).mono ?_)
  rintro v L' ⟨rfl, rfl⟩
  rw [decide_eq_true hm]
  refine ⟨_, rfl, ?_⟩
  refine OS.pure rfl (fun _ => rfl) rfl ?_
  refine OS.nil ?_
  refine LS.cond rfl (fun h => ?_) (fun h => ?_)
  · cases h
  refine LS.skip ?_
  repeat refine LS.seq ?_
  refine LS.region rfl ?_
  refine OS.pure rfl (fun _ => rfl) rfl ?_
  refine OS.pure rfl (fun _ => rfl) rfl ?_
  refine OS.pure rfl (fun _ => rfl) rfl ?_
  refine OS.pure rfl (e_add (m := 5) (n := s.length) rfl rfl rfl (in_i64 (by omega) (by omega))) rfl ?_
  refine OS.call noGo rfl (fun _ => rfl) ((own_ct (room := 5 + s.length) hb (by omega) (by omega)).mono ?_)
  rintro v L' ⟨r, rfl, rfl⟩
  refine ⟨_, rfl, ?_⟩
  refine OS.pure rfl (fun _ => rfl) rfl ?_
  refine OS.pure rfl (fun _ => rfl) rfl ?_
  refine OS.pure rfl (e_conv (n := s.length) rfl rfl rfl rfl (in_u64 (by omega) (by omega))) rfl ?_
  refine OS.call noGo rfl (fun _ => rfl) ((addGroups_ct s.length (by omega) (by omega) hl).mono ?_)
  rintro v L' ⟨r, rfl, rfl⟩
  refine ⟨_, rfl, ?_⟩
  refine OS.pure rfl (fun _ => rfl) rfl ?_
  refine OS.nil ?_
  repeat refine LS.seq ?_
  refine LS.region rfl ?_
  refine OS.pure rfl (fun _ => rfl) rfl ?_
  refine OS.pure rfl (fun _ => rfl) rfl ?_
  refine OS.fresh rfl (e_append_text 0 (n := s.length) (bts := 1) rfl rfl rfl rfl (by omega) (by omega) rfl (cut_all (by rw [byteCells_len]; simp; omega)) rfl) (fun _ => rfl) (fun r2 => ?_)
  refine OS.pure rfl (fun _ => rfl) rfl ?_
  refine OS.nil ?_
  refine LS.ret ⟨_, fun _ _ => rfl, ?_⟩
  rw [hc]
  exact ⟨r2, by rw [Nat.add_assoc]; rfl, by rw [← byteCells_append, List.append_assoc]⟩

theorem Flag_ct {L : RL} {b : Value} {bs : List UInt8} {n : Nat} (v : Bool) (hb : SV 1 L b n (byteCells bs)) (hn : n ≤ 400000000000) :
    CS Try.prog 46 [b, .bool v] L fun v' L' => ∃ r, v' = .slice (some ⟨r, 0, none⟩) (n + 1) openCap ∧ L' = (r, .cells 5 (byteCells (bs ++ [if v then 1 else 0]))) :: L := by
  have hl : bs.length = n := by have := hb.len; simpa [byteCells] using this
  cases v
  all_goals
    refine CS.mk (fn := Try.f46) rfl rfl rfl rfl ?_
    repeat refine LS.seq ?_
    refine LS.region rfl ?_
    refine OS.pure rfl (fun _ => rfl) rfl ?_
    refine OS.nil ?_
    repeat refine LS.seq ?_
    refine LS.region rfl ?_
    refine OS.pure rfl (fun _ => rfl) rfl ?_
    refine OS.nil ?_
    repeat refine LS.seq ?_
    refine LS.region rfl ?_
    refine OS.pure rfl (fun _ => rfl) rfl ?_
    refine OS.nil ?_
    refine LS.cond rfl (fun h => ?_) (fun h => ?_) <;> first | (cases h; done) | skip
    first | refine LS.skip ?_ | (refine LS.region rfl ?_; refine OS.pure rfl (fun _ => rfl) rfl ?_; refine OS.nil ?_)
    repeat refine LS.seq ?_
    refine LS.region rfl ?_
    refine OS.pure rfl (fun _ => rfl) rfl ?_
    refine OS.call noGo rfl (fun _ => rfl) ((own_ct (room := 1) hb hn (by omega)).mono ?_)
    rintro v L' ⟨r, rfl, rfl⟩
    refine ⟨_, rfl, ?_⟩
    refine OS.pure rfl (fun _ => rfl) rfl ?_
    refine OS.fresh rfl (e_new (fun _ => rfl) rfl) (fun _ => rfl) (fun r2 => ?_)
    refine OS.fresh rfl (e_appendSV 1 (sz := 1) (bts := 1) (SV.row (sz := 1) (n := 1) (List.mem_cons_self ..) rfl) rfl rfl rfl rfl (by omega) (by omega) rfl (cut_all (by rw [byteCells_len]; omega)) rfl) (fun _ => rfl) (fun r3 => ?_)
    refine OS.pure rfl (fun _ => rfl) rfl ?_
    refine OS.sub (Sub.drop 1 rfl) ?_
    refine OS.nil ?_
    refine LS.ret ⟨_, fun _ _ => rfl, ?_⟩
    exact ⟨r3, rfl, by rw [byteCells_append]; rfl⟩
end Go.Proofs.Ytnfenpkkhkdkhaa
