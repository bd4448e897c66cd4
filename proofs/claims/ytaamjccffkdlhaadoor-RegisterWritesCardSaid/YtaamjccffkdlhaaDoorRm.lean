/- Walk: the code's reading of roman numerals. -/
import Derived.Test.YtaamjccffkdlhaaDoorRk
import Derived.Lib.IsU
import Derived.Lib.MapLaws
import Derived.Lib.IndexBytes
namespace Go.Proofs.YtaamjccffkdlhaaDoor
open Go.RowKit

theorem encode_4 (z : Int) : (Lib.encodeRune z).length ≤ 4 := by
  unfold Lib.encodeRune Lib.encodeRuneZ
  rw [List.length_map]
  repeat' split
  all_goals simp
theorem mapD_4 (f : Int → Int) : ∀ (n : Nat) (l : List UInt8), l.length ≤ n → (Lib.mapD f l).length ≤ 4 * l.length
  | 0, l, hn => by
    have : l = [] := List.eq_nil_of_length_eq_zero (by omega)
    subst this
    simp [Lib.mapD_nil]
  | n + 1, l, hn => by
    by_cases hne : l = []
    · subst hne
      simp [Lib.mapD_nil]
    · have hw := Lib.decodeL_width l
      have hle := Lib.decodeL_le l hne
      have ih := mapD_4 f n (l.drop (Lib.decodeL l).2) (by rw [List.length_drop]; omega)
      rw [List.length_drop] at ih
      rw [Lib.mapD_step f l hne, List.length_append]
      have hh : (if 0 ≤ f (Lib.decodeL l).1 then Lib.encodeRune (f (Lib.decodeL l).1) else []).length ≤ 4 := by
        split
        · exact encode_4 _
        · simp
      omega
theorem rmT_ne {k : Nat} (hk : k < 13) : rmT k ≠ [] := by
  have : ∀ k : Fin 13, rmT k.val ≠ [] := by decide
  exact this ⟨k, hk⟩
theorem rmS_pos {k : Nat} (hk : k < 13) : 0 < (rmS k).size := List.length_pos_iff.2 (rmT_ne hk)
theorem ba_toL (l : List UInt8) : (⟨l.toArray⟩ : ByteArray).toList = l := by rw [ByteArray.toList_eq]
/-- Roman's answer. -/
def romV (s : ByteArray) (N : Nat) : Int := if 1 ≤ N ∧ (s.data.toList = romX N ∨ s.data.toList = upL (romX N)) then N else 0
def romE (s : ByteArray) (N : Nat) : Int := if 1 ≤ N ∧ (s.data.toList = romX N ∨ s.data.toList = upL (romX N)) then 0 else 4
def RRd (T : List UInt8 × Nat) (w : World) (v4 v5 v11 : Value) (wr : World) : Prop :=
  ∃ (k n : Nat) (S : ByteArray), k ≤ 13 ∧ v11 = .int .i64 k ∧ v5 = .int .i64 n ∧ v4 = .string S ∧ n ≤ 40999 ∧ S.size ≤ 1000 ∧ rdA (rmTab.drop k) S.data.toList n = T ∧ Below w.heap.size w wr
def RRe (T : List UInt8 × Nat) (k g : Nat) (w : World) (v4 v5 : Value) (wr : World) : Prop :=
  ∃ (n : Nat) (S : ByteArray), v5 = .int .i64 n ∧ v4 = .string S ∧ n ≤ 40999 ∧ S.size ≤ 1000 ∧ rdA (rmTab.drop k) S.data.toList n = T ∧ Blk wr g 38 #[.int .i64 (rmV k), .string (rmS k)] ∧ Below w.heap.size w wr
def szOf (v : Value) : Nat := match v with | .string s => s.size | _ => 0
theorem rd_more {T : List UInt8 × Nat} {k n : Nat} {S : ByteArray} (hk : k < 13) (hn : n ≤ 39999) (hp : Lib.hasPrefix S.data.toList (rmS k).data.toList = true) (h : rdA (rmTab.drop k) S.data.toList n = T) :
    rdA (rmTab.drop k) (S.extract (rmS k).size S.size).data.toList (n + rmV k) = T ∧ (rmS k).size ≤ S.size := by
  have hd := rm_drop ⟨k, hk⟩
  simp only at hd
  rw [hd.1] at h ⊢
  rw [Lib.extract_to_end]
  have hp' : Lib.hasPrefix S.data.toList (rmT k) = true := hp
  refine ⟨by rw [← h, rdA_more (rmT_ne hk) hn hp']; rfl, ?_⟩
  have := pre_some (pre_yes hp')
  have := congrArg List.length this
  rw [List.length_append] at this
  show (rmT k).length ≤ S.data.toList.length
  omega
theorem rd_next {T : List UInt8 × Nat} {k n : Nat} {S : ByteArray} (hk : k < 13) (hc : 39999 < n ∨ Lib.hasPrefix S.data.toList (rmS k).data.toList = false) (h : rdA (rmTab.drop k) S.data.toList n = T) :
    rdA (rmTab.drop (k + 1)) S.data.toList n = T := by
  have hd := rm_drop ⟨k, hk⟩
  simp only at hd
  rw [hd.1] at h
  rw [← h]
  exact (rdA_next hc).symm
set_option maxRecDepth 100000 in
/-- Roman, of a text in small letters l0. -/
theorem cRoman0 (s : ByteArray) (l0 : List UInt8) (hl0 : l0.length ≤ 1000) (w : World) (hN : NumAt w) (hP : PowAt w)
    (hL : Calls Tryd.prog 20 #[.string s] w fun e w' => e = .returned (.string ⟨l0.toArray⟩) ∧ Below w.heap.size w w') :
    Calls Tryd.prog 9 #[.string s] w fun e w' => e = .returned (.tuple #[.int .i64 (romV s (rdN l0)), .int .i64 (romE s (rdN l0))]) ∧ Below w.heap.size w w' := by
  have HL := Lib.hid hL
  clear hL
  obtain ⟨N, hNe⟩ : ∃ N, N = rdN l0 := ⟨_, rfl⟩
  rw [← hNe]
  have HX := Lib.hid hNe
  clear hNe
  have hs0 : (⟨l0.toArray⟩ : ByteArray).size ≤ 1000 := hl0
  have H0 : Hid (rdA rmTab (⟨l0.toArray⟩ : ByteArray).data.toList 0 = rdA rmTab l0 0) := Lib.hid (by simp)
  generalize (⟨l0.toArray⟩ : ByteArray) = S0 at HL hs0 H0
  go_enter Tryd.func9, Tryd.ntmps9
  go_wp2_with (first
    | (go_at_call 20; refine HL.out.mono ?_; rintro e w1 ⟨rfl, hb1⟩; obtain ⟨tt, fr, ho⟩ := hN.below hb1)
    | (refine wpList_load_row rfl 39 _ rfl 0 rfl tt _ fr _ ho Tryd.underlying39 rfl (by kernel_rfl) ?_))
  have hN1 := Lib.hid (hN.below hb1)
  go_loopw [4, 5, 11] (fun v4 v5 v11 wr => RRd (rdA rmTab l0 0) w v4 v5 v11 wr) (fun _ _ v11 _ => 13 - (intOf v11).toNat)
  case atStart => exact ⟨0, 0, S0, by omega, rfl, rfl, rfl, by omega, hs0, H0.out, hb1⟩
  case round =>
    clear hs0 H0 HL ho hb1
    obtain ⟨k, n, S, hk, rfl, rfl, rfl, hn, hS, hd, hb⟩ := hrel
    have HD := Lib.hid hd
    clear hd
    by_cases hk13 : k < 13
    · have hix := ixN k hk13
      obtain ⟨f1, f2, f3⟩ := rm_fact hk13
      have f4 := rmS_pos hk13
      have hdk : decide ((k : Int) < 13) = true := decide_eq_true (by omega)
      have hblk := Blk.new wr 38 #[.int .i64 (rmV k), .string (rmS k)]
      have hb1 := hb.alloc hb.size (.cells #[.int .i64 (rmV k), .string (rmS k)] 38)
      have HB := Lib.hid hblk
      clear hblk
      go_wp2_with fail
      clear hix
      generalize wr.alloc (.cells #[.int .i64 (rmV k), .string (rmS k)] 38) = wi at HB hb1 ⊢
      generalize wr.heap.size = g at HB ⊢
      clear hb
      go_loopw [4, 5] (fun v4 v5 wj => RRe (rdA rmTab l0 0) k g w v4 v5 wj) (fun v4 _ _ => szOf v4)
      case atStart => exact ⟨n, S, rfl, rfl, hn, hS, HD.out, HB.out, hb1⟩
      case round =>
        clear hb1 HB HD hn hS
        obtain ⟨n', S', rfl, rfl, hn', hS', hd', hblk, hb'⟩ := hrel
        have HD := Lib.hid hd'
        clear hd'
        have c0 : wr.cell? ⟨g, 0, none⟩ = some (.int .i64 (rmV k)) := hblk.cell 0
        have c1 : wr.cell? ⟨g, 1, none⟩ = some (.string (rmS k)) := hblk.cell 1
        have HB := Lib.hid hblk
        clear hblk
        by_cases hn9 : n' ≤ 39999
        · have HPx := Lib.hid (fun w => Tryd.strings_HasPrefix S' (rmS k) w)
          cases hp : Lib.hasPrefix S'.data.toList (rmS k).data.toList
          · rw [hp] at HPx
            go_wp2_with (go_at_call 21; refine (HPx.out _).mono ?_; rintro e w' ⟨rfl, rfl⟩)
            go_roundw
            case rel => exact ⟨k + 1, n', S', by omega, by go_num, rfl, rfl, hn', hS', rd_next hk13 (.inr hp) HD.out, hb'⟩
            case measure => simp [intOf]; omega
          · rw [hp] at HPx
            obtain ⟨hm, hle⟩ := rd_more hk13 hn9 hp HD.out
            have HM := Lib.hid hm
            clear hm hp
            go_wp2_with (go_at_call 21; refine (HPx.out _).mono ?_; rintro e w' ⟨rfl, rfl⟩)
            go_quiet (fail)
            go_wp2_with fail
            go_roundw
            case rel => exact ⟨n' + rmV k, _, by go_num, rfl, by omega, by rw [ByteArray.size_extract]; omega, HM.out, HB.out.drewN _, below_drewN hb' _⟩
            case measure =>
              show (S'.extract (rmS k).size S'.size).size < S'.size
              rw [ByteArray.size_extract]; omega
        · go_wp2_with fail
          go_roundw
          case rel => exact ⟨k + 1, n', S', by omega, by go_num, rfl, rfl, hn', hS', rd_next hk13 (.inl (by omega)) HD.out, hb'⟩
          case measure => simp [intOf]; omega
    · obtain rfl : k = 13 := by omega
      obtain rfl : n = N := by
        rw [HX.out]
        unfold rdN
        rw [← HD.out]; rfl
      have HNr := Lib.hid (hN.below hb)
      have HPr := Lib.hid (hP.below hb)
      by_cases h1 : 1 ≤ n
      · have HI := Lib.hid (fun w hN hP => cWr n (by omega) ⟨#[105]⟩ (by decide) w hN hP)
        have HJ := Lib.hid (fun w hN hP => cWr n (by omega) ⟨#[73]⟩ (by decide) w hN hP)
        have b1' : bodyL n ⟨#[105]⟩ = romX n := by unfold bodyL; rw [if_neg (by omega)]; rfl
        have b2' : bodyL n ⟨#[73]⟩ = upL (romX n) := by unfold bodyL; rw [if_neg (by omega)]; rfl
        rw [b1'] at HI
        rw [b2'] at HJ
        have t1 := ba_toL (romX n)
        have t2 := ba_toL (upL (romX n))
        clear b1' b2'
        by_cases e1 : s.data.toList = romX n
        · have hv : romV s n = n := by unfold romV; rw [if_pos ⟨h1, .inl e1⟩]
          have he : romE s n = 0 := by unfold romE; rw [if_pos ⟨h1, .inl e1⟩]
          have HV := Lib.hid hv
          have HE := Lib.hid he
          generalize (⟨(romX n).toArray⟩ : ByteArray) = R at HI t1
          have hne : (s.toList == R.toList) = true := by rw [t1, ByteArray.toList_eq, e1]; exact beq_self_eq_true _
          clear hv he e1 t1 t2
          go_wp2_with (go_at_call 13; with_reducible refine (HI.out _ HNr.out HPr.out).mono ?_; rintro e w2 ⟨rfl, hb2⟩)
          rw [HV.out, HE.out]
          go_ret2
          exact ⟨rfl, ntrans hb hb2⟩
        · have hne : (s.toList == (⟨(romX n).toArray⟩ : ByteArray).toList) = false := by rw [t1, ByteArray.toList_eq]; simpa using e1
          by_cases e2 : s.data.toList = upL (romX n)
          · have hv : romV s n = n := by unfold romV; rw [if_pos ⟨h1, .inr e2⟩]
            have he : romE s n = 0 := by unfold romE; rw [if_pos ⟨h1, .inr e2⟩]
            have HV := Lib.hid hv
            have HE := Lib.hid he
            have hnf : (s.toList == (⟨(upL (romX n)).toArray⟩ : ByteArray).toList) = true := by rw [t2, ByteArray.toList_eq, e2]; exact beq_self_eq_true _
            generalize (⟨(romX n).toArray⟩ : ByteArray) = R at HI hne
            generalize (⟨(upL (romX n)).toArray⟩ : ByteArray) = Q at HJ hnf
            clear hv he e1 e2 t1 t2
            go_wp2_with (first
              | (go_at_call 13; with_reducible refine (HI.out _ HNr.out HPr.out).mono ?_; rintro e w2 ⟨rfl, hb2⟩; have HN2 := Lib.hid (HNr.out.below hb2); have HP2 := Lib.hid (HPr.out.below hb2))
              | (go_at_call 13; with_reducible refine (HJ.out _ HN2.out HP2.out).mono ?_; rintro e w3 ⟨rfl, hb3⟩))
            rw [HV.out, HE.out]
            go_ret2
            exact ⟨rfl, ntrans (ntrans hb hb2) hb3⟩
          · have hno : ¬ (1 ≤ n ∧ (s.data.toList = romX n ∨ s.data.toList = upL (romX n))) := fun h => by
              rcases h.2 with h | h
              · exact e1 h
              · exact e2 h
            have hv : romV s n = 0 := by unfold romV; rw [if_neg hno]
            have he : romE s n = 4 := by unfold romE; rw [if_neg hno]
            have HV := Lib.hid hv
            have HE := Lib.hid he
            have hnf : (s.toList == (⟨(upL (romX n)).toArray⟩ : ByteArray).toList) = false := by rw [t2, ByteArray.toList_eq]; simpa using e2
            generalize (⟨(romX n).toArray⟩ : ByteArray) = R at HI hne
            generalize (⟨(upL (romX n)).toArray⟩ : ByteArray) = Q at HJ hnf
            clear hv he hno e1 e2 t1 t2
            go_wp2_with (first
              | (go_at_call 13; with_reducible refine (HI.out _ HNr.out HPr.out).mono ?_; rintro e w2 ⟨rfl, hb2⟩; have HN2 := Lib.hid (HNr.out.below hb2); have HP2 := Lib.hid (HPr.out.below hb2))
              | (go_at_call 13; with_reducible refine (HJ.out _ HN2.out HP2.out).mono ?_; rintro e w3 ⟨rfl, hb3⟩))
            rw [HV.out, HE.out]
            go_ret2
            exact ⟨rfl, ntrans (ntrans hb hb2) hb3⟩
      · have hno : ¬ (1 ≤ n ∧ (s.data.toList = romX n ∨ s.data.toList = upL (romX n))) := fun h => h1 h.1
        have hv : romV s n = 0 := by unfold romV; rw [if_neg hno]
        have he : romE s n = 4 := by unfold romE; rw [if_neg hno]
        have HV := Lib.hid hv
        have HE := Lib.hid he
        clear hv he hno
        go_wp2_with fail
        rw [HV.out, HE.out]
        go_ret2
        exact ⟨rfl, hb⟩
end Go.Proofs.YtaamjccffkdlhaaDoor
