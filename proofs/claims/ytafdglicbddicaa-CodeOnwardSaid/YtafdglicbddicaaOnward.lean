/- The walk of bastionlaw01.CodeOnward. -/
import Derived.Test.YtafdglicbddicaaOnwardP
import Derived.StillTailTactics
namespace Go.Proofs.Ytafdglicbddicaa
open Go.RowKit

theorem ask_failed (k : UInt8) (N : Int) (s : ByteArray) (g : Nat) {lo : Nat} (r : List UInt8) (w : World) (hr : Rdr w g lo r true) (ht : Th.ok ⟨k, N, s⟩) :
    Calls Try.prog 25 #[.agg #[.int .u8 (k.toNat : Int), .int .i64 N, .string s], .pointer (some ⟨g, 0, none⟩)] w fun e w' => e = .returned (.agg #[.int .i64 0, .string ⟨#[]⟩]) ∧ Rdr w' g lo r true ∧ w.grownBy w' (some g) :=
  ask_any ⟨k, N, s⟩ g r true w hr ht

theorem Rdr.drewN {w : World} {g lo : Nat} {bs : List UInt8} {f : Bool} (h : Rdr w g lo bs f) (j : Nat) : Rdr (w.drewN j) g lo bs f := h.keep (below_drewN (Below.refl _ _) j)

set_option maxRecDepth 100000 in
set_option maxHeartbeats 8000000 in
theorem onward_core (A : Option Addr) (n c : Nat) (bs : List UInt8) (B : Option Addr) (m d : Nat) (ts : List Th) (w : World)
    (hs : SlB w Any A n bs) (hnc : n ≤ c) (ht : SlT w Any B m ts) (hto : ∀ a ∈ ts, a.ok) (hm : m ≤ maxLen) (hn : n ≤ 20000) (hl : longB ts = false) :
    Calls Try.prog 8 #[.slice A n c, .slice B m d] w fun e w' => e = .returned (.bool true) ∧ Below w.heap.size w w' := by
  have HL := Lib.hid hl
  have HM := Lib.hid hm
  have hm' : (m : Int) ≤ 9223372036854775807 := by unfold maxLen at hm; omega
  have hni : (n : Int) ≤ 20000 := by omega
  have HN := Lib.hid hn
  have HNC := Lib.hid hnc
  have HTO := Lib.hid hto
  have HBL := Lib.hid hs.len
  clear hl hm hn hto
  go_enter Try.func8, Try.ntmps8
  go_wp2_with (first
    | (go_at_call 11; ((with_reducible refine (works_any _).mono ?_); rintro e w1 ⟨rfl, hb⟩))
    | (go_at_call 22; ((with_reducible refine (long_is Any B m d ts _ (ht.below_all hb) HTO.out HM.out HL.out).mono ?_); rintro e w2 ⟨rfl, rfl⟩))
    | (go_at_call 21; ((with_reducible refine (newReader_any Any A n c bs _ (hs.below_all hb) (by have := HN.out; omega)).mono ?_); rintro e w2 ⟨g1, rfl, hr1, hg1, hb2⟩; have hlo := Nat.le_trans hb.size hg1; have hb := seq hb hb2)))
  have hts := SlT.here ht
  have Hlo := Lib.hid hlo
  have Hlen := Lib.hid ht.len
  clear hlo hb2 hg1
  go_loopw [6, 7] (fun a i wr => ∃ (k p : Nat) (r : List UInt8) (f : Bool), k ≤ m ∧ i = .int .i64 (k : Int) ∧ a = .int .i64 (p : Int) ∧ p ≤ n ∧ Hid (r = bs.drop p) ∧ Hid (f = true → p = n) ∧ Rdr wr g1 w1.heap.size r f ∧ Below w.heap.size w wr) (fun _ i _ => m - (intOf i).toNat)
  case atStart => exact ⟨0, 0, bs, false, by omega, rfl, rfl, by omega, Lib.hid rfl, Lib.hid (by simp), hr1, hb⟩
  case round =>
    clear hr1 hb
    obtain ⟨k, p, r, f, hkm, rfl, rfl, hpn, HR, HF, hr1, hb⟩ := hrel
    rcases Nat.lt_or_ge k m with hlt | hge
    · have hkl : k < ts.length := by rw [Hlen.out]; exact hlt
      have hta : ts[k]? = some ts[k] := List.getElem?_eq_getElem hkl
      have hok := Lib.hid (HTO.out _ (List.getElem_mem hkl))
      obtain ⟨ad, rfl, hadw, c0, c1, c2⟩ := (SlT.below hts hb).atF hlt _ hta
      obtain ⟨⟨tk, tN, tS⟩, htk⟩ : ∃ a, a = ts[k] := ⟨_, rfl⟩
      rw [← htk] at c0 c1 c2 hok
      clear htk hta hkl
      simp only at c0 c1 c2
      cases f with
      | true =>
        have hp := HF.out rfl
        subst hp
        have hre : r = [] := by rw [HR.out]; exact List.drop_eq_nil_of_le (by rw [HBL.out]; omega)
        subst hre
        go_wp2_with (first
          | (go_at_call 25; ((refine (ask_failed tk tN tS g1 [] _ hr1 hok.out).mono ?_); rintro e w6 ⟨rfl, hr6, hg6⟩))
          | (go_at_call 12; ((with_reducible refine (okF _ g1 [] (hr6.alloc _)).mono ?_); rintro e w7 ⟨rfl, rfl⟩))
          | (go_at_call 14; ((with_reducible refine (left_is (k := 0) _ g1 [] true (hr6.alloc _) rfl).mono ?_); rintro e w8 ⟨rfl, rfl⟩))
          | (go_at_call 13; ((with_reducible refine (done_is (v := false) _ g1 [] true (hr6.alloc _) rfl).mono ?_); rintro e w9 ⟨rfl, rfl⟩)))
        go_roundw
        case rel => exact ⟨k + 1, p, [], true, by omega, by go_num, rfl, by omega, HR, Lib.hid (fun _ => rfl), hr6.alloc _, seq_alloc (seqg hb hg6 Hlo.out) _⟩
        case measure => simp [intOf]; omega
      | false =>
        by_cases hz : Th.sz ⟨tk, tN, tS⟩ r = 0
        · have HZ := Lib.hid hz
          clear hz
          go_wp2_with (first
            | (go_at_call 25; ((refine (ask_no tk tN tS g1 r _ hr1 hok.out HZ.out).mono ?_); rintro e w6 ⟨rfl, hr6, hg6⟩))
            | (go_at_call 12; ((with_reducible refine (okF _ g1 [] (hr6.alloc _)).mono ?_); rintro e w7 ⟨rfl, rfl⟩))
            | (go_at_call 14; ((with_reducible refine (left_is (k := 0) _ g1 [] true (hr6.alloc _) rfl).mono ?_); rintro e w8 ⟨rfl, rfl⟩))
            | (go_at_call 13; ((with_reducible refine (done_is (v := false) _ g1 [] true (hr6.alloc _) rfl).mono ?_); rintro e w9 ⟨rfl, rfl⟩)))
          go_roundw
          case rel => exact ⟨k + 1, n, [], true, by omega, by go_num, rfl, by omega, Lib.hid (by rw [List.drop_eq_nil_of_le (by rw [HBL.out]; omega)]), Lib.hid (fun _ => rfl), hr6.alloc _, seq_alloc (seqg hb hg6 Hlo.out) _⟩
          case measure => simp [intOf]; omega
        · obtain ⟨q, hq⟩ : ∃ q, q = Th.sz ⟨tk, tN, tS⟩ r := ⟨_, rfl⟩
          obtain ⟨x, hx⟩ : ∃ x, x = Th.tn ⟨tk, tN, tS⟩ r := ⟨_, rfl⟩
          obtain ⟨l, hl⟩ : ∃ l, l = Th.ts ⟨tk, tN, tS⟩ r := ⟨_, rfl⟩
          have HZ := Lib.hid hz
          have HQ := Lib.hid hq
          have HX := Lib.hid hx
          have HLL := Lib.hid hl
          clear hz hq hx hl
          go_wp2_with (first
            | (go_at_call 25; ((refine (ask_yes tk tN tS g1 r _ hr1 hok.out HQ.out.symm (by rw [HQ.out]; exact HZ.out) HX.out.symm HLL.out.symm).mono ?_); rintro e w6 ⟨rfl, hr6, hg6⟩))
            | (go_at_call 12; ((with_reducible refine (okT _ g1 _ (hr6.alloc _)).mono ?_); rintro e w7 ⟨rfl, rfl⟩)))
          have hb6 := seqg hb hg6 Hlo.out
          have hbW := seq_alloc hb6 (.cells #[.int .i64 x, .string (tstr l)] 46)
          have hr1W := hr6.alloc (.cells #[.int .i64 x, .string (tstr l)] 46)
          have hB := Bk.new w6 46 #[.int .i64 x, .string (tstr l)]
          have hbk : (ad.add (k * 3)).block < w.heap.size := by rw [add_block]; exact hadw
          have hcW : ∀ p : Addr, p.block < w.heap.size → ∀ v, wr.cell? p = some v → (w6.alloc (.cells #[.int .i64 x, .string (tstr l)] 46)).cell? p = some v := fun p hp v hv =>
            ((hbW.cell hp).trans (hb.cell hp).symm).trans hv
          have d0 := hcW _ hbk _ c0
          have d1 := hcW ⟨_, _, none⟩ hbk _ c1
          have x0 := hB.cell 0
          have x1 := hB.cell 1
          simp only [List.getElem?_toArray, List.getElem?_cons_zero, List.getElem?_cons_succ] at x0 x1
          have hbl : w6.heap.size < (w6.alloc (.cells #[.int .i64 x, .string (tstr l)] 46)).heap.size := hB.lt
          clear hcW c0 c1 c2 hr1 hr6 hg6 hb6 hb
          generalize hW : w6.alloc (.cells #[.int .i64 x, .string (tstr l)] 46) = W at *
          generalize hbx : w6.heap.size = bx at *
          clear hW hbx
          go_still_tail 10, (by kernel_rfl)
          have hrl : r.length = n - p := by rw [HR.out, List.length_drop, HBL.out]
          have hqr := sz_len ⟨tk, tN, tS⟩ r
          rw [← HQ.out] at hqr
          have hll := ts_len tk tN tS r
          rw [← HLL.out] at hll
          have hxb := tn_bd tk tN tS r
          rw [← HX.out] at hxb
          have htk := took_eq tk tN tS r HZ.out
          rw [← HQ.out, ← HX.out, ← HLL.out] at htk
          have hsz : (tstr l).size = l.length := by show l.toArray.size = _; simp
          have HO := Lib.hid (show Th.ok ⟨tk, x, tstr l⟩ from ⟨hxb.1, hxb.2, by simp only [hsz]; have := HN.out; omega⟩)
          have HSZ := Lib.hid (show (tstr l).size ≤ 2147483647 by rw [hsz]; have := HN.out; omega)
          have HTK := Lib.hid htk
          have HTL := Lib.hid (show (r.take q).length = q by rw [List.length_take]; omega)
          have HQR := Lib.hid hqr
          have HRL := Lib.hid hrl
          have HSL := Lib.hid hsz
          have HLR := Lib.hid hll
          clear hrl hqr hll hxb htk hsz
          go_wp2_with (first
            | (go_at_call 19; ((with_reducible refine (lay_is tk x (tstr l) _ HO.out HSZ.out HTK.out HTL.out).mono ?_); rintro e w9 ⟨A9, c9, rfl, hs9, hb9⟩))
            | ((with_reducible show wpList _ _ _ (⟨_, Op.convert _ _ _, _, _, _, _⟩ :: _) _ _); (refine wpList_str (o := ⟨some 64, _, _, _, _, _⟩) _ rfl (.tmp 63) 32 9 rfl 5 Try.underlying32 Try.underlying5 Try.underlying9 Any A9 q c9 (r.take q) rfl hs9 ?_)))
          have hbk9 := undrewB hb9
          have e0 := (hbk9.cell (p := ad.add (k * 3)) (Nat.lt_of_lt_of_le hbk hbW.size)).trans d0
          have e1 := (hbk9.cell (p := ⟨(ad.add (k * 3)).block, (ad.add (k * 3)).off + 1, none⟩) (Nat.lt_of_lt_of_le hbk hbW.size)).trans d1
          have y0 := (hbk9.cell (p := ⟨bx, 0, none⟩) hbl).trans x0
          have y1 := (hbk9.cell (p := ⟨bx, 1, none⟩) hbl).trans x1
          have hb10 := Lib.hid (seq hbW hbk9)
          have hr10 := Lib.hid (hr1W.keep hbk9)
          have hsb := Lib.hid (hs.below_all hb10.out)
          clear hbW hr1W d0 d1 x0 x1 hb9 hbk9 hs9 hbl hbk
          have hpn' : p < n := by have := HQR.out; have := HRL.out; have h1 := HZ.out; rw [← HQ.out] at h1; omega
          have hcp : (c = p) = False := by simp; have := HNC.out; omega
          have hpi : (p : Int) < (n : Int) := by omega
          have hnci : (n : Int) ≤ (c : Int) := by have := HNC.out; omega
          have hgt : decide ((n : Int) < (p : Int)) = false := by simp; omega
          have hqc : ∀ j, (convert 32 9 (.slice (Option.map (fun x => x.add p) A) (n - p) (c - p))).run Try.prog (w9.drewN j) = .ok (.string ⟨r.toArray⟩) (w9.drewN j) := by
            intro j
            have h1 := (SlB.rest hsb.out hpn HNC.out)
            rw [if_neg (by have := HNC.out; omega), ← HR.out] at h1
            exact run_str (P := Try.prog) 32 9 5 Try.underlying32 Try.underlying5 Try.underlying9 (Sl.drewN h1 j) (c - p)
          have hne : (r.take q).isEmpty = false := by
            have h1 := HTL.out
            have h2 := HZ.out
            rw [← HQ.out] at h2
            cases hh : r.take q with
            | nil => rw [hh] at h1; simp at h1; omega
            | cons a b => rfl
          have hne2 : (r.take q = []) = False := by simp only [eq_iff_iff, iff_false]; intro h; rw [h] at hne; simp at hne
          have hbeg := Lib.hid ((begB_iff r (r.take q)).2 (List.take_prefix q r))
          have hb1 := Lib.hid (show (ByteArray.mk r.toArray).size ≤ 9223372036854775807 by show r.toArray.size ≤ _; simp; have := HRL.out; have := HN.out; omega)
          have hb2 := Lib.hid (show (ByteArray.mk (r.take q).toArray).size ≤ 9223372036854775807 by show (r.take q).toArray.size ≤ _; rw [List.size_toArray, HTL.out]; have := HRL.out; have := HQR.out; have := HN.out; omega)
          have hls : ((tstr l).size : Int) = (l.length : Int) := by rw [HSL.out]
          have hki : (k : Int) < (m : Int) := by omega
          obtain ⟨L, hL⟩ : ∃ L, L = (r.drop q).length := ⟨_, rfl⟩
          have HLd := Lib.hid hL
          have hLn : L + (p + q) = n := by rw [hL, List.length_drop, HRL.out]; have := HQR.out; have := HRL.out; omega
          have hl0 : ((L : Int) != (n : Int) - ((p : Int) + (q : Int))) = false := by simp; omega
          have hdn : Hid (dn (r.drop q) false = ((p : Int) + (q : Int) == (n : Int))) := by
            refine Lib.hid ?_
            unfold dn
            rw [← hL, Bool.eq_iff_iff]
            simp
            omega
          have hmn : min q r.length = q := by have := HQR.out; omega
          have hz9 : (ByteArray.mk (List.take q r).toArray).size = q := by show (List.take q r).toArray.size = q; rw [List.size_toArray, HTL.out]
          have hpq : (p : Int) + (q : Int) ≤ (n : Int) := by omega
          have hqi : (q : Int) ≤ 20000 := by omega
          have HLN := Lib.hid hLn
          clear hL hLn
          rcases (show tk.toNat = 1 ∨ tk.toNat = 2 ∨ (tk.toNat ≠ 1 ∧ tk.toNat ≠ 2) by omega) with hk | hk | hk
          · have hle : decide (tN < x) = false := by rw [HX.out]; simp; exact took_le1 HZ.out hk
            have k1 : ((tk.toNat : Int) == 1) = true := by simp; omega
            have k2 : ((tk.toNat : Int) == 2) = false := by simp; omega
            clear hk
            refine wp_region_quiet_lit (by kernel_rfl) (by kernel_rfl) ?_
            iterate 54 (first | go_big_quiet_step (fail) | quiet_step (((go_at_call 31; exact (begins_is ⟨r.toArray⟩ ⟨(r.take q).toArray⟩ _ hb1.out hb2.out hbeg.out).mono fun _ _ ⟨h, hw⟩ => ⟨h, _, hw.symm⟩))))
            refine wpQuiet_nil ?_
            intro _ hw'
            obtain ⟨nq, hw''⟩ := hw'
            subst hw''
            go_wp2_with (first
              | (go_at_call 14; ((with_reducible refine (left_is _ g1 _ false (hr10.out.drewN nq) HLd.out.symm).mono ?_); rintro e w11 ⟨rfl, rfl⟩))
              | (go_at_call 13; ((with_reducible refine (done_is _ g1 _ false (hr10.out.drewN nq) hdn.out).mono ?_); rintro e w12 ⟨rfl, rfl⟩)))
            go_roundw
            case rel => exact ⟨k + 1, p + q, r.drop q, false, by omega, by go_num, by go_num, by have := HLN.out; omega, Lib.hid (by rw [HR.out, List.drop_drop]), Lib.hid (by simp), hr10.out.drewN nq, below_drewN hb10.out nq⟩
            case measure => simp [intOf]; omega
          · have hle : decide (tN < (l.length : Int)) = false := by rw [HLL.out]; simp; exact took_le2 HZ.out hk
            have k1 : ((tk.toNat : Int) == 1) = false := by simp; omega
            have k2 : ((tk.toNat : Int) == 2) = true := by simp; omega
            clear hk
            refine wp_region_quiet_lit (by kernel_rfl) (by kernel_rfl) ?_
            iterate 54 (first | go_big_quiet_step (fail) | quiet_step (((go_at_call 31; exact (begins_is ⟨r.toArray⟩ ⟨(r.take q).toArray⟩ _ hb1.out hb2.out hbeg.out).mono fun _ _ ⟨h, hw⟩ => ⟨h, _, hw.symm⟩))))
            refine wpQuiet_nil ?_
            intro _ hw'
            obtain ⟨nq, hw''⟩ := hw'
            subst hw''
            go_wp2_with (first
              | (go_at_call 14; ((with_reducible refine (left_is _ g1 _ false (hr10.out.drewN nq) HLd.out.symm).mono ?_); rintro e w11 ⟨rfl, rfl⟩))
              | (go_at_call 13; ((with_reducible refine (done_is _ g1 _ false (hr10.out.drewN nq) hdn.out).mono ?_); rintro e w12 ⟨rfl, rfl⟩)))
            go_roundw
            case rel => exact ⟨k + 1, p + q, r.drop q, false, by omega, by go_num, by go_num, by have := HLN.out; omega, Lib.hid (by rw [HR.out, List.drop_drop]), Lib.hid (by simp), hr10.out.drewN nq, below_drewN hb10.out nq⟩
            case measure => simp [intOf]; omega
          · have k1 : ((tk.toNat : Int) == 1) = false := by simp; omega
            have k2 : ((tk.toNat : Int) == 2) = false := by simp; omega
            clear hk
            refine wp_region_quiet_lit (by kernel_rfl) (by kernel_rfl) ?_
            iterate 54 (first | go_big_quiet_step (fail) | quiet_step (((go_at_call 31; exact (begins_is ⟨r.toArray⟩ ⟨(r.take q).toArray⟩ _ hb1.out hb2.out hbeg.out).mono fun _ _ ⟨h, hw⟩ => ⟨h, _, hw.symm⟩))))
            refine wpQuiet_nil ?_
            intro _ hw'
            obtain ⟨nq, hw''⟩ := hw'
            subst hw''
            go_wp2_with (first
              | (go_at_call 14; ((with_reducible refine (left_is _ g1 _ false (hr10.out.drewN nq) HLd.out.symm).mono ?_); rintro e w11 ⟨rfl, rfl⟩))
              | (go_at_call 13; ((with_reducible refine (done_is _ g1 _ false (hr10.out.drewN nq) hdn.out).mono ?_); rintro e w12 ⟨rfl, rfl⟩)))
            go_roundw
            case rel => exact ⟨k + 1, p + q, r.drop q, false, by omega, by go_num, by go_num, by have := HLN.out; omega, Lib.hid (by rw [HR.out, List.drop_drop]), Lib.hid (by simp), hr10.out.drewN nq, below_drewN hb10.out nq⟩
            case measure => simp [intOf]; omega
    · have HK := Lib.hid (show m ≤ k from hge)
      cases f with
      | true =>
        have hp := HF.out rfl
        have hre : r = [] := by rw [HR.out]; exact List.drop_eq_nil_of_le (by rw [HBL.out]; omega)
        subst hre
        clear hp
        go_wp2_with (first
          | (go_at_call 12; ((with_reducible refine (okF _ g1 [] hr1).mono ?_); rintro e w7 ⟨rfl, rfl⟩))
          | (go_at_call 14; ((with_reducible refine (left_is (k := 0) _ g1 [] true hr1 rfl).mono ?_); rintro e w8 ⟨rfl, rfl⟩)))
        go_ret
        exact ⟨rfl, hb⟩
      | false =>
        go_wp2_with (go_at_call 12; ((with_reducible refine (okT _ g1 r hr1).mono ?_); rintro e w7 ⟨rfl, rfl⟩))
        go_ret
        exact ⟨rfl, hb⟩

end Go.Proofs.Ytafdglicbddicaa
