/- The walk of bastionlaw01.CodeBehind. -/
import Derived.Test.YtafdglicbddicaaMore
import Derived.Deep.RegionHeld3
import Derived.IntWalk
namespace Go.Proofs.Ytafdglicbddicaa
open Go.RowKit

set_option maxRecDepth 100000 in
set_option maxHeartbeats 4000000 in
theorem behind_core (A : Option Addr) (n c : Nat) (bs : List UInt8) (A' : Option Addr) (n' c' : Nat) (ms : List UInt8) (B : Option Addr) (m d : Nat) (ts : List Th) (w : World)
    (hs : SlB w Any A n bs) (hs' : SlB w Any A' n' ms) (ht : SlT w Any B m ts) (hto : ∀ a ∈ ts, a.ok) (hm : m ≤ maxLen) (hn : n ≤ 20000) (hn' : n' ≤ 20000) (hl : longB ts = false) :
    Calls Try.prog 9 #[.slice A n c, .slice A' n' c', .slice B m d] w fun e w' => e = .returned (.bool true) ∧ Below w.heap.size w w' := by
  have HL := Lib.hid hl
  have HM := Lib.hid hm
  have hm' : (m : Int) ≤ 9223372036854775807 := by unfold maxLen at hm; omega
  have hni : (n : Int) ≤ 20000 := by omega
  have hni' : (n' : Int) ≤ 20000 := by omega
  have HN := Lib.hid hn
  have HN' := Lib.hid hn'
  have HTO := Lib.hid hto
  clear hl hm hn hn' hto
  go_enter Try.func9, Try.ntmps9
  go_wp2_with (first
    | (go_at_call 11; ((with_reducible refine (works_any _).mono ?_); rintro e w1 ⟨rfl, hb⟩))
    | (go_at_call 22; ((with_reducible refine (long_is Any B m d ts _ (ht.below_all hb) HTO.out HM.out HL.out).mono ?_); rintro e w2 ⟨rfl, rfl⟩))
    | (go_at_call 21; ((with_reducible refine (newReader_any Any A n c bs _ (hs.below_all hb) (by have := HN.out; omega)).mono ?_); rintro e w2 ⟨g1, rfl, hr1, hg1, hb2⟩; have hlo := Nat.le_trans hb.size hg1; have hb := seq hb hb2; have hb0 := hb; have hk := Below.refl w2.heap.size w2))
    | (at_builtin; refine wpList_app _ rfl (.tmp 30) (.tmp 31) _ rfl w2.heap.size 5 _ 1 1 Try.underlying32 info_u8 rfl (by decide) (.slice (some ⟨w2.heap.size, 0, none⟩) 0 0) 0 [] rfl (own_empty _ _ _ (Nat.le_refl _)) Any A n c (bs.map byteV) rfl ((hs.below_all hb).alloc _) (byteV_one _) (by have := HN.out; unfold maxLen; omega) (by have := HN.out; omega) (by simp) ?_; intro v3 w3 hown3 hg3 hat3; have hk := below_app (hk.alloc (Nat.le_refl _) _) hg3 (by intro k hk; have : k = w2.heap.size := (by simpa [Value.ownBlock] using hk.symm); omega); have hb := seq hb hk; simp only [Nat.zero_add, List.nil_append] at hown3)
    | (at_builtin; refine wpList_app _ rfl (.tmp 32) (.tmp 33) _ rfl w2.heap.size 5 _ 1 1 Try.underlying32 info_u8 rfl (by decide) v3 n (bs.map byteV) rfl hown3 Any A' n' c' (ms.map byteV) rfl (hs'.below_all hb) (byteV_one _) (by have := HN.out; have := HN'.out; unfold maxLen; omega) (by have := HN.out; have := HN'.out; omega) hk.size ?_; intro v4 w4 hown4 hg4 hat4; have hk := below_app hk hg4 (fun k hk => (hown3.lt k hk).1); obtain ⟨A4, c4, rfl, hc4, hm4⟩ := own_form hown4)
    | (go_at_call 21; go_loud ((refine (newReader_any _ A4 (n + n') c4 (bs ++ ms) _ (by unfold SlB; rw [List.map_append]; exact Sl.of_own hown4) (by have := HN.out; have := HN'.out; omega)).mono ?_); rintro e w5 ⟨g2, rfl, hr2, hg2, hb5⟩; have hgl := Nat.lt_of_lt_of_le hr1.lt (Nat.le_trans hk.size hg2); have hlw := Nat.lt_of_lt_of_le hr1.lt hk.size; have hk := seq hk hb5)))
  have hbw := seq hb0 hk
  have hr1' := hr1.keep hk
  have hg2w : w.heap.size ≤ g2 := by have := hb0.size; have := hg2; have := hgl; omega
  have hts := SlT.here ht
  clear hr1 hk hb hb0 hb2 hb5 hown3 hown4 hg3 hg4 hat3 hat4
  have Hlo := Lib.hid hlo
  have hw4 := Lib.hid (show g1 < w4.heap.size by omega)
  have Hgl := Lib.hid hgl
  have Hg2w := Lib.hid hg2w
  have Hlen := Lib.hid ht.len
  clear hlo hgl hg2w hg1 hlw
  go_loopw [9] (fun i wr => ∃ (k : Nat) (r : List UInt8), k ≤ m ∧ i = .int .i64 (k : Int) ∧ Rdr wr g1 w1.heap.size r false ∧ Rdr wr g2 w4.heap.size (r ++ ms) false ∧ Below w.heap.size w wr) (fun i _ => m - (intOf i).toNat)
  case atStart => exact ⟨0, bs, by omega, rfl, hr1', hr2, hbw⟩
  case round =>
    clear hr1' hr2 hbw
    obtain ⟨k, r, hkm, rfl, hr1, hr2, hb⟩ := hrel
    rcases Nat.lt_or_ge k m with hlt | hge
    · have hkl : k < ts.length := by rw [Hlen.out]; exact hlt
      have hta : ts[k]? = some ts[k] := List.getElem?_eq_getElem hkl
      have hok := Lib.hid (HTO.out _ (List.getElem_mem hkl))
      obtain ⟨ad, rfl, hadw, c0, c1, c2⟩ := (SlT.below hts hb).atF hlt _ hta
      obtain ⟨⟨tk, tN, tS⟩, htk⟩ : ∃ a, a = ts[k] := ⟨_, rfl⟩
      rw [← htk] at c0 c1 c2 hok
      clear htk hta hkl
      simp only at c0 c1 c2
      by_cases hz : Th.sz ⟨tk, tN, tS⟩ r = 0
      · have HZ := Lib.hid hz
        clear hz
        go_wp2_with (first
          | (go_at_call 25; ((refine (ask_no tk tN tS g1 r _ hr1 hok.out HZ.out).mono ?_); rintro e w6 ⟨rfl, hr6, hg6⟩))
          | (go_at_call 12; ((with_reducible refine (okF _ g1 [] (hr6.alloc _)).mono ?_); rintro e w7 ⟨rfl, rfl⟩)))
        go_ret
        exact ⟨rfl, seq_alloc (seqg hb hg6 Hlo.out) _⟩
      · obtain ⟨q, hq⟩ : ∃ q, q = Th.sz ⟨tk, tN, tS⟩ r := ⟨_, rfl⟩
        obtain ⟨e1, e2, e3⟩ := sz_more ⟨tk, tN, tS⟩ ms hz
        obtain ⟨x, hx⟩ : ∃ x, x = Th.tn ⟨tk, tN, tS⟩ r := ⟨_, rfl⟩
        obtain ⟨l, hl⟩ : ∃ l, l = Th.ts ⟨tk, tN, tS⟩ r := ⟨_, rfl⟩
        have hqr := sz_len ⟨tk, tN, tS⟩ r
        have HZ := Lib.hid hz
        have HQ := Lib.hid hq
        have HX := Lib.hid hx
        have HLL := Lib.hid hl
        have E1 := Lib.hid e1
        have E2 := Lib.hid e2
        have E3 := Lib.hid e3
        have HQR := Lib.hid hqr
        clear hz hq hx hl e1 e2 e3 hqr
        go_wp2_with (first
          | (go_at_call 25; ((refine (ask_yes tk tN tS g1 r _ hr1 hok.out HQ.out.symm (by rw [HQ.out]; exact HZ.out) HX.out.symm HLL.out.symm).mono ?_); rintro e w6 ⟨rfl, hr6, hg6⟩))
          | (go_at_call 12; ((with_reducible refine (okT _ g1 _ (hr6.alloc _)).mono ?_); rintro e w7 ⟨rfl, rfl⟩)))
        have hb6 := seqg hb hg6 Hlo.out
        have hbW := seq_alloc hb6 (.cells #[.int .i64 x, .string (tstr l)] 46)
        have hr1W := hr6.alloc (.cells #[.int .i64 x, .string (tstr l)] 46)
        have hr2W := (hr2.other hg6 (.inr ⟨by have := hr6.lt; have := Hgl.out; have := hw4.out; omega, Hgl.out⟩)).alloc (.cells #[.int .i64 x, .string (tstr l)] 46)
        have hB := Bk.new w6 46 #[.int .i64 x, .string (tstr l)]
        have hbg : g2 < w6.heap.size := (hr2.other hg6 (.inr ⟨by have := hr6.lt; have := Hgl.out; have := hw4.out; omega, Hgl.out⟩)).lt
        have hbk : (ad.add (k * 3)).block < w.heap.size := by rw [add_block]; exact hadw
        have hcW : ∀ p : Addr, p.block < w.heap.size → ∀ v, wr.cell? p = some v → (w6.alloc (.cells #[.int .i64 x, .string (tstr l)] 46)).cell? p = some v := fun p hp v hv =>
          ((hbW.cell hp).trans (hb.cell hp).symm).trans hv
        have d0 := hcW _ hbk _ c0
        have d1 := hcW ⟨_, _, none⟩ hbk _ c1
        have d2 := hcW ⟨_, _, none⟩ hbk _ c2
        have x0 := hB.cell 0
        have x1 := hB.cell 1
        simp only [List.getElem?_toArray, List.getElem?_cons_zero, List.getElem?_cons_succ] at x0 x1
        have hwg : w.heap.size ≤ g2 := Hg2w.out
        have hbb : w6.heap.size ≠ g2 := by omega
        have keep : ∀ W', (w6.alloc (.cells #[.int .i64 x, .string (tstr l)] 46)).grownBy W' (some g2) → ∀ p : Addr, p.block ≠ g2 → ∀ v, (w6.alloc (.cells #[.int .i64 x, .string (tstr l)] 46)).cell? p = some v → W'.cell? p = some v :=
          fun W' hg p hp v hv => hg.cell hv (by intro e; injection e with e; exact hp e)
        have KEEP := Lib.hid keep
        clear keep hcW c0 c1 c2 hB hr1 hr2 hr6 hg6 hb6 hb
        generalize hW : w6.alloc (.cells #[.int .i64 x, .string (tstr l)] 46) = W at *
        generalize hbx : w6.heap.size = bx at *
        clear hW hbx
        have HB := Lib.hid hbW
        have hn1 : (ad.add (k * 3)).block ≠ g2 := by omega
        clear hbW hbg hwg hbk hadw
        have HN1 := Lib.hid hn1
        have HBB := Lib.hid hbb
        have HL1 : Hid (∃ L : Nat, (r.drop q).length = L ∧ ((r ++ ms).drop q).length = L + n' ∧ (r ++ ms).drop q = r.drop q ++ ms) := by
          have h1 := HQR.out
          have h2 := HQ.out
          have h3 := hs'.len
          refine Lib.hid ⟨_, rfl, ?_, ?_⟩
          · simp only [List.length_drop, List.length_append]; omega
          · rw [List.drop_append_of_le_length (by omega)]
        obtain ⟨L, l1, l2, l3⟩ := HL1.out
        have HL2 := Lib.hid l1
        have HL3 := Lib.hid l2
        have HL4 := Lib.hid l3
        have hwr : IntKind.i64.wrap ((L : Int) + (n' : Int)) = (L : Int) + (n' : Int) := IntWalk.i64_in _ (by have := hr1W.len; have := HL2.out; have := HN'.out; omega)
        clear hn1 hbb HL1 l1 l2 l3
        go_region_held3 (fun W' => W'.cell? (ad.add (k * 3)) = some (.int .u8 (tk.toNat : Int)) ∧ W'.cell? ⟨(ad.add (k * 3)).block, (ad.add (k * 3)).off + 1, none⟩ = some (.int .i64 tN) ∧ W'.cell? ⟨(ad.add (k * 3)).block, (ad.add (k * 3)).off + 2, none⟩ = some (.string tS) ∧ W'.cell? ⟨bx, 0, none⟩ = some (.int .i64 x) ∧ W'.cell? ⟨bx, 1, none⟩ = some (.string (tstr l)))
          (first | exact ⟨d0, d1, d2, x0, x1⟩ | exact ⟨KEEP.out _ hg9 _ HN1.out _ d0, KEEP.out _ hg9 ⟨_, _, none⟩ HN1.out _ d1, KEEP.out _ hg9 ⟨_, _, none⟩ HN1.out _ d2, KEEP.out _ hg9 ⟨_, _, none⟩ HBB.out _ x0, KEEP.out _ hg9 ⟨_, _, none⟩ HBB.out _ x1⟩)
          (first
            | (go_at_call 25; (refine (ask_yes tk tN tS g2 (r ++ ms) _ hr2W.drew hok.out (E1.out.trans HQ.out.symm) (by rw [HQ.out]; exact HZ.out) (E2.out.trans HX.out.symm) (E3.out.trans HLL.out.symm)).mono ?_); rintro e w9 ⟨rfl, hr9, hg9'⟩; have hg9 := undrew hg9'; have hr19 := hr1W.other hg9 (.inl Hgl.out))
            | (go_at_call 12; refine (okT _ g2 _ hr9).mono ?_; rintro e w10 ⟨rfl, rfl⟩)
            | (go_at_call 14; refine (left_is _ g2 _ false hr9 HL3.out).mono ?_; rintro e w11 ⟨rfl, rfl⟩)
            | (go_at_call 14; refine (left_is _ g1 _ false hr19 HL2.out).mono ?_; rintro e w12 ⟨rfl, rfl⟩))
        go_wp2
        go_roundw
        case rel => exact ⟨k + 1, r.drop q, by omega, by go_num, hr19, by rw [← HL4.out]; exact hr9, seqg HB.out hg9 Hg2w.out⟩
        case measure => simp [intOf]; omega
    · have HR := Lib.hid (show m ≤ k from hge)
      go_wp2_with (first
        | (go_at_call 13; ((with_reducible refine (done_any _ g1 r false hr1).mono ?_); rintro e w7 ⟨rfl, rfl⟩))
        | (go_at_call 14; ((with_reducible refine (left_is _ g2 (r ++ ms) false hr2 rfl).mono ?_); rintro e w8 ⟨rfl, rfl⟩)))
      go_ret
      refine ⟨ret_bool ?_, hb⟩
      have e := hs'.len
      have e2 : (((r.length : Int) + (ms.length : Int)) == (n' : Int)) = (r.length == 0) := by
        rw [Bool.eq_iff_iff]
        simp only [beq_iff_eq]
        omega
      unfold dn
      rw [e2]
      simp

set_option maxRecDepth 100000 in
set_option maxHeartbeats 1000000 in
theorem behind_long (A : Option Addr) (n c : Nat) (A' : Option Addr) (n' c' : Nat) (B : Option Addr) (m d : Nat) (ts : List Th) (w : World)
    (ht : SlT w Any B m ts) (hto : ∀ a ∈ ts, a.ok) (hm : m ≤ maxLen) (hl : 20000 < n ∨ (n ≤ 20000 ∧ 20000 < n') ∨ (n ≤ 20000 ∧ n' ≤ 20000 ∧ longB ts = true)) :
    Calls Try.prog 9 #[.slice A n c, .slice A' n' c', .slice B m d] w fun e w' => e = .returned (.bool true) ∧ Below w.heap.size w w' := by
  have HM := Lib.hid hm
  have HTO := Lib.hid hto
  clear hm hto
  rcases hl with h | ⟨h1, h2⟩ | ⟨h1, h2, h3⟩
  · have h' : (20000 : Int) < (n : Int) := by omega
    clear h
    go_enter Try.func9, Try.ntmps9
    go_wp2_with (go_at_call 11; ((with_reducible refine (works_any _).mono ?_); first | (rintro e w2 ⟨rfl, hb2⟩; have hb := seq hb hb2) | (rintro e w1 ⟨rfl, hb⟩)))
    go_ret
    exact ⟨rfl, hb⟩
  · have h1' : (n : Int) ≤ 20000 := by omega
    have h2' : (20000 : Int) < (n' : Int) := by omega
    clear h1 h2
    go_enter Try.func9, Try.ntmps9
    go_wp2_with (go_at_call 11; ((with_reducible refine (works_any _).mono ?_); first | (rintro e w2 ⟨rfl, hb2⟩; have hb := seq hb hb2) | (rintro e w1 ⟨rfl, hb⟩)))
    go_ret
    exact ⟨rfl, hb⟩
  · have h1' : (n : Int) ≤ 20000 := by omega
    have h2' : (n' : Int) ≤ 20000 := by omega
    have H3 := Lib.hid h3
    clear h1 h2 h3
    go_enter Try.func9, Try.ntmps9
    go_wp2_with (first
      | (go_at_call 11; ((with_reducible refine (works_any _).mono ?_); first | (rintro e w2 ⟨rfl, hb2⟩; have hb := seq hb hb2) | (rintro e w1 ⟨rfl, hb⟩)))
      | (go_at_call 22; ((with_reducible refine (long_is Any B m d ts _ (ht.below_all hb) HTO.out HM.out H3.out).mono ?_); rintro e w3 ⟨rfl, rfl⟩)))
    go_ret
    exact ⟨rfl, hb⟩

theorem behind_walk {w : World} (A : Option Addr) (n c : Nat) (bs : List UInt8) (hs : SlB w Any A n bs) (_ : n ≤ c) (_ : c ≤ maxLen) (A' : Option Addr) (n' c' : Nat) (ms : List UInt8) (hs' : SlB w Any A' n' ms) (_ : n' ≤ c') (_ : c' ≤ maxLen)
    (B : Option Addr) (m d : Nat) (ts : List Th) (ht : SlT w Any B m ts) (hto : ∀ a ∈ ts, a.ok) (hmd : m ≤ d) (hd : d ≤ maxLen) :
    Calls Try.prog 9 #[.slice A n c, .slice A' n' c', .slice B m d] w fun e w' => e = .returned (.bool true) ∧ Below w.heap.size w w' := by
  by_cases h : 20000 < n ∨ (n ≤ 20000 ∧ 20000 < n') ∨ (n ≤ 20000 ∧ n' ≤ 20000 ∧ longB ts = true)
  · exact behind_long A n c A' n' c' B m d ts w ht hto (Nat.le_trans hmd hd) h
  · have h3 : longB ts = false := by
      cases hb : longB ts with
      | true => exact absurd (.inr (.inr ⟨by omega, by omega, hb⟩)) h
      | false => rfl
    exact behind_core A n c bs A' n' c' ms B m d ts w hs hs' ht hto (Nat.le_trans hmd hd) (by omega) (by omega) h3

end Go.Proofs.Ytafdglicbddicaa
