/- Walk of package expand: a text is expanded, whoever is asked. -/
import Derived.Test.YtbkcnopkibdlbaaDoorAh
import Derived.OwnWalk
namespace Go.Proofs.YtbkcnopkibdlbaaDoor
open Go.RowKit Go.Lib

theorem infoU8 : (Tryd.prog.info? 5).map (fun i => (i.zero, i.size, i.bytes)) = some (some (.int .u8 0), 1, 1) := by kernel_rfl
theorem ints_one (k : IntKind) (x : Int) : ∀ u ∈ [Value.int k x], u.oneCell' = true := by intro u hu; rw [List.mem_singleton] at hu; subst hu; rfl
theorem new_one (w : World) (t : TypeId) (u : Value) : ∀ (j : Nat) (v : Value), [u][j]? = some v → (w.alloc (.cells #[u] t)).cell? ((⟨w.heap.size, 0, none⟩ : Addr).add j) = some v := by
  intro j v hj
  match j, hj with
  | 0, hj => simp at hj; subst hj; exact Blk.cell (Blk.new w t #[u]) 0
  | j + 1, hj => simp at hj
theorem own_form {w : World} {b n size : Nat} {t : TypeId} {v : Value} {xs : List Value} (h : w.ownsRow b t size v n xs) : ∃ A c, v = .slice A n c := by
  rcases h.2 with ⟨rfl, rfl⟩ | ⟨g, cap, cur, rfl, _⟩
  · exact ⟨none, 0, rfl⟩
  · exact ⟨_, _, rfl⟩
theorem Blk.five {w : World} {g : Nat} {t : TypeId} {a b c d e : Value} (h : Blk w g t #[a, b, c, d, e]) : w.cell? ⟨g, 0, none⟩ = some a ∧ w.cell? ⟨g, 1, none⟩ = some b ∧ w.cell? ⟨g, 2, none⟩ = some c ∧ w.cell? ⟨g, 3, none⟩ = some d ∧ w.cell? ⟨g, 4, none⟩ = some e ∧ ∀ i, w.frozen? ⟨g, i, none⟩ = false :=
  ⟨h.cell 0, h.cell 1, h.cell 2, h.cell 3, h.cell 4, fun i => h.frozen i⟩
def strSz : Value → Nat
  | .string s => s.size
  | _ => 0
def cntAt (w : World) (b : Nat) : Nat := match w.cell? ⟨b, 2, none⟩ with
  | some (.int _ n) => n.toNat
  | _ => 0
theorem cnt_of {b : Nat} {cp : Bool} {A : Esc → ByteArray} {J : (Nat → Prop) → Nat → World → Prop} (O : Orc b cp A J) {U : Nat → Prop} {n : Nat} {w : World} (h : J U n w) (R : ByteArray) : muE (cntAt w b) (strSz (.string R)) = muE n R.size := by
  unfold cntAt strSz
  rw [O.c2 h]
  simp
theorem one_cells {k : Nat} (h : k < 256) : strCells ⟨#[UInt8.ofNat k]⟩ = [.int .u8 k] := by
  have : (UInt8.ofNat k).toNat = k := by simp; omega
  unfold strCells
  simp [this]
section
variable {b : Nat} {cp : Bool} {A : Esc → ByteArray} {J : (Nat → Prop) → Nat → World → Prop} {U0 : Nat → Prop} {w : World} {U : Nat → Prop} {n : Nat} {D : ByteArray} {v : Value} {wr w1 : World}
/-- What expand leaves behind. -/
def ExTo (cp : Bool) (A : Esc → ByteArray) (J : (Nat → Prop) → Nat → World → Prop) (U : Nat → Prop) (n : Nat) (R : ByteArray) (w : World) (e : Ending) (w' : World) : Prop :=
  ∃ U' o m, Exp cp A n ⟨#[]⟩ R o m ∧ e = endO o ∧ J U' m w' ∧ Turn U w w' ∧ (∀ i, U' i → U i ∨ w.heap.size ≤ i) ∧ n ≤ m ∧ m ≤ 500
theorem Lm.done (h : Lm J U0 w U n D v wr) {n0 : Nat} {R0 : ByteArray} {o : Option ByteArray} (h0 : n0 ≤ n) (h5 : n ≤ 500) (he : Exp cp A n0 ⟨#[]⟩ R0 o n) : ExTo cp A J U0 n0 R0 w (endO o) wr :=
  ⟨U, o, n, he, rfl, h.j, h.turn, h.new, h0, h5⟩
theorem Lm.start (h : J U n w) (_h5 : n ≤ 500) : Lm J U w U n ⟨#[]⟩ (.slice none 0 0) w := ⟨h, World.ownsRow_nil _ _ _ _, Turn.refl _ _, fun _ h => .inl h⟩
/-- Bytes were gathered: the memory, and the escape's block. -/
theorem Lm.app (O : Orc b cp A J) {cs : Array Value} (h : Lm J U0 w U n D v (w1.alloc (.cells cs 65))) {t : ByteArray} {v2 : Value} {w2 : World}
    (ho : w2.ownsRow w.heap.size 5 1 v2 (D.size + t.size) (strCells D ++ strCells t)) (hg : (w1.alloc (.cells cs 65)).grownBy w2 v.ownBlock) :
    Lm J U0 w U n (D ++ t) v2 w2 ∧ Blk w2 w1.heap.size 65 cs ∧ w1.heap.size < w2.heap.size := by
  have h2 : Lm J U0 w U n (D ++ t) v2 w2 := h.grown O hg (by rw [app_size, app_cells]; exact ho)
  have hB := Blk.new w1 65 cs
  have h3 : Blk w2 w1.heap.size 65 cs := hB.grown hg (fun e => by
    rcases h.own.2 with ⟨rfl, _⟩ | ⟨g', cap, cur, rfl, _, hgg, _⟩
    · cases e
    · injection e with e
      have e : w1.heap.size = g' := e
      subst e
      unfold Blk at hB
      rw [hgg] at hB
      injection hB with hB
      injection hB with _ hB _
      exact absurd hB (by decide))
  exact ⟨h2, h3, h3.lt⟩
end
set_option maxRecDepth 100000 in
set_option maxHeartbeats 4000000 in
/-- expand. -/
theorem cEx {b : Nat} {cp : Bool} {A : Esc → ByteArray} {J : (Nat → Prop) → Nat → World → Prop} (O : Orc b cp A J) : ∀ (M : Nat) (U0 : Nat → Prop) (n0 : Nat) (R0 : ByteArray) (w : World), muE n0 R0.size < M → R0.size ≤ 8000 → n0 ≤ 500 → J U0 n0 w →
    Calls Tryd.prog 22 #[.pointer (some ⟨b, 0, none⟩), .string R0] w (ExTo cp A J U0 n0 R0 w) := by
  intro M
  induction M with
  | zero => intro U0 n0 R0 w h; omega
  | succ M ih =>
    intro U0 n0 R0 w hM hR hn hJ
    have IH := Lib.hid ih
    have HO := Lib.hid O
    have L0 := Lib.hid (Lm.start hJ hn)
    have HM := Lib.hid (show muE n0 R0.size ≤ M by omega)
    clear ih hM hJ
    obtain ⟨i0, hi0, hz0, hz1, hz2⟩ := info_parts infoU8
    go_enter Tryd.func22, Tryd.ntmps22
    go_wp2_with fail
    go_loopw [1, 5] (fun v1 v5 wr => ∃ (U : Nat → Prop) (n : Nat) (R D : ByteArray), v1 = .string R ∧ Lm J U0 w U n D v5 wr ∧ n0 ≤ n ∧ n ≤ 500 ∧ D.size + R.size ≤ 8000 ∧ (∀ o m, Exp cp A n D R o m → Exp cp A n0 ⟨#[]⟩ R0 o m) ∧ muE n R.size ≤ muE n0 R0.size)
      (fun v1 _ wr => muE (cntAt wr b) (strSz v1))
    case atStart => exact ⟨U0, n0, R0, ⟨#[]⟩, rfl, L0.out, Nat.le_refl _, hn, by show 0 + R0.size ≤ 8000; omega, fun _ _ h => h, Nat.le_refl _⟩
    case round =>
      obtain ⟨U, n, R, D, rfl, hl, h0, h5, hz, hx, hmu⟩ := hrel
      clear L0
      have HL := Lib.hid hl
      have HX := Lib.hid hx
      have HU := Lib.hid hmu
      have c0 := HO.out.c0 hl.j
      have hsz := hl.size
      have HC : Hid (muE (cntAt wr b) (strSz (.string R)) = muE n R.size) := Lib.hid (by
        unfold cntAt strSz
        rw [HO.out.c2 hl.j]
        simp)
      obtain ⟨S5, c5, rfl⟩ := own_form hl.own
      have HF := Lib.hid (fun w => cFd R cp (by omega) w)
      clear hx hmu hl
      cases he : esF R cp with
      | none =>
        rw [he] at HF
        unfold fdV escV at HF
        simp only at HF
        have HE := Lib.hid (HX.out _ _ (.stop he))
        have ka := fun (w : World) => run_string_add_sum (P := Tryd.prog) w D R (by omega)
        clear HX he HU HC
        go_wp2_with (go_at_call 28; refine (HF.out _).mono ?_; rintro e w1 ⟨rfl, hb⟩; have l1 := (HL.out.below HO.out hb).alloc HO.out (.cells #[.int .u8 0, .string ⟨#[]⟩, .int .i64 0, .int .i64 0, .int .i64 0] 65); have hcv := conv_own l1.own; have L1 := Lib.hid l1; clear l1)
        go_ret
        exact L1.out.done h0 h5 HE.out
      | some x =>
        rw [he] at HF
        unfold fdV escV at HF
        simp only at HF
        have hf := esF_fine he
        have f1 := hf.az
        have f2 := hf.z
        have f3 := hf.k
        have hhd := hd_size hf
        have htl := tl_size R x
        have HE := Lib.hid he
        have HK := Lib.hid hf.kind
        unfold hdE at hhd
        unfold tlE at htl
        clear he hf
        obtain ⟨k, nm, st, a, z⟩ := x
        simp only at *
        by_cases k34 : k = 34
        · have hB1 : ((k : Int) == 42) = false := by rw [beq_eq_false_iff_ne]; omega
          have hB2 : ((k : Int) == 36) = false := by rw [beq_eq_false_iff_ne]; omega
          have hB3 : ((k : Int) == 119) = false := by rw [beq_eq_false_iff_ne]; omega
          have hB4 : ((k : Int) == 110) = false := by rw [beq_eq_false_iff_ne]; omega
          have hB5 : ((k : Int) == 34) = true := by rw [beq_iff_eq]; omega
          have HX := Lib.hid (HX.out _ _ (.quote HE.out k34))
          clear HK HU HC IH HM k34
          go_wp2_with (first
            | (go_at_call 28; refine (HF.out _).mono ?_; rintro e w1 ⟨rfl, hb⟩; have l1 := (HL.out.below HO.out hb).alloc HO.out (.cells #[.int .u8 k, .string nm, .int .i64 st, .int .i64 a, .int .i64 z] 65); have hsz1 := hb.size; have L1 := Lib.hid l1; clear l1 hb)
            | (at_builtin
               refine wpList_append_own_string _ rfl (.tmp 23) (.tmp 27) 41 9 rfl w.heap.size 5 i0 Tryd.underlying41 Tryd.underlying9 hi0 hz0 hz1 hz2 _ D.size _ rfl L1.out.own (R.extract 0 a) rfl (by unfold maxLen; omega) (by omega) (by simp; omega) ?_
               intro v2 w2 ho2 hg2 _
               obtain ⟨l2, e2, hs2⟩ := L1.out.app HO.out ho2 hg2
               obtain ⟨p0, p1, p2, p3, p4, pf⟩ := e2.five
               have hcv := conv_own l2.own
               have L2 := Lib.hid l2
               clear ho2 hg2 l2 e2))
          go_ret
          exact L2.out.done h0 h5 HX.out
        · obtain ⟨D2, hD2⟩ : ∃ D2, D2 = D ++ R.extract 0 a := ⟨_, rfl⟩
          obtain ⟨tz, htz⟩ : ∃ tz, tz = (R.extract z R.size).size := ⟨_, rfl⟩
          have HD2 := Lib.hid hD2
          have HDZ : Hid (D2.size = D.size + a ∧ tz = R.size - z ∧ (R.extract 0 a).size = a) := Lib.hid ⟨by rw [hD2, app_size, hhd], by rw [htz, htl], hhd⟩
          have hle : D2.size + tz ≤ 8000 := by have := HDZ.out; omega
          have HTZ := Lib.hid htz
          have hts := htz.symm
          have HNU : Hid (∀ g, wr.heap.size ≤ g → ¬ U g) := Lib.hid (fun g hg hu => by have := HO.out.mem HL.out.j g hu; omega)
          have HE2 : Hid (∀ y : Esc, (D ++ hdE R ⟨k, nm, st, a, z⟩).size + (tlE R ⟨k, nm, st, a, z⟩).size = D2.size + tz ∧ D ++ hdE R ⟨k, nm, st, a, z⟩ = D2 ∧ tlE R ⟨k, nm, st, a, z⟩ = R.extract z R.size) := Lib.hid (fun _ => ⟨by unfold hdE tlE; rw [hD2, htz], by unfold hdE; rw [hD2], rfl⟩)
          clear hhd htl hD2 htz
          by_cases hlt : k = 92 ∨ k = 46
          · have hB1 : ((k : Int) == 42) = false := by rw [beq_eq_false_iff_ne]; omega
            have hB2 : ((k : Int) == 36) = false := by rw [beq_eq_false_iff_ne]; omega
            have hB3 : ((k : Int) == 119) = false := by rw [beq_eq_false_iff_ne]; omega
            have hB4 : ((k : Int) == 110) = false := by rw [beq_eq_false_iff_ne]; omega
            have hB5 : ((k : Int) == 34) = false := by rw [beq_eq_false_iff_ne]; omega
            have HX : Hid (∀ o m, Exp cp A n (D2 ++ ⟨#[UInt8.ofNat k]⟩) (R.extract z R.size) o m → Exp cp A n0 ⟨#[]⟩ R0 o m) := Lib.hid (fun o m h => HX.out o m (.lit HE.out hlt (by rw [(HE2.out ⟨k, nm, st, a, z⟩).2.1, (HE2.out ⟨k, nm, st, a, z⟩).2.2]; exact h)))
            clear HK IH HM HE HE2 k34 hlt
            go_wp2_with (first
              | (go_at_call 28; refine (HF.out _).mono ?_; rintro e w1 ⟨rfl, hb⟩; have l1 := (HL.out.below HO.out hb).alloc HO.out (.cells #[.int .u8 k, .string nm, .int .i64 st, .int .i64 a, .int .i64 z] 65); have hsz1 := hb.size; have hnu := HNU.out w1.heap.size hsz1; have L1 := Lib.hid l1; clear l1 hb)
              | (at_builtin
                 refine wpList_append_own_string _ rfl (.tmp 23) (.tmp 27) 41 9 rfl w.heap.size 5 i0 Tryd.underlying41 Tryd.underlying9 hi0 hz0 hz1 hz2 _ D.size _ rfl L1.out.own (R.extract 0 a) rfl (by have := HDZ.out; rw [this.2.2]; unfold maxLen; omega) (by have := HDZ.out; rw [this.2.2]; omega) (by simp; omega) ?_
                 intro v2 w2 ho2 hg2 _
                 obtain ⟨l2, e2, hs2⟩ := L1.out.app HO.out ho2 hg2
                 rw [← HD2.out] at l2
                 obtain ⟨p0, p1, p2, p3, p4, pf⟩ := e2.five
                 obtain ⟨S2, c2, rfl⟩ := own_form l2.own
                 have L2 := Lib.hid l2
                 have E2 := Lib.hid e2
                 have hsz2 := l2.size
                 clear ho2 hg2 l2 e2)
              | (at_builtin
                 refine wpList_append_own _ rfl (.tmp 71) (.tmp 74) 41 rfl w.heap.size 5 i0 (.int .u8 0) 1 1 Tryd.underlying41 hi0 hz0 hz1 hz2 rfl (by decide) _ D2.size _ rfl (L2.out.own.alloc _) ⟨w2.heap.size, 0, none⟩ 1 1 [.int .u8 k] rfl rfl (new_one w2 _ _) (ints_one _ _) (by unfold maxLen; omega) (by omega) (by simp; omega) ?_
                 intro v3 w3 ho3 hg3 _
                 have l3 := (L2.out.alloc HO.out (.cells #[.int .u8 k] 5)).grown HO.out (D' := D2 ++ ⟨#[UInt8.ofNat k]⟩) hg3 (by rw [app_size, app_cells, one_cells f3]; exact ho3)
                 have L3 := Lib.hid l3
                 clear ho3 hg3 l3))
            go_roundw
            case rel => exact ⟨U, n, R.extract z R.size, _, rfl, L3.out, h0, h5, by have := HDZ.out; rw [app_size, show (⟨#[UInt8.ofNat k]⟩ : ByteArray).size = 1 from rfl, hts]; omega, HX.out, Nat.le_trans (muE_mono (by have := HDZ.out; rw [hts]; omega)) HU.out⟩
            case measure =>
              show muE (cntAt w3 b) (strSz (.string (R.extract z R.size))) < muE (cntAt wr b) (strSz (.string R))
              rw [HC.out, cnt_of HO.out L3.out.j]
              have := HDZ.out
              exact muE_less2 (Nat.le_refl _) h5 (by rw [hts]; omega) (by rw [hts]; omega)
          · by_cases k119 : k = 119
            · have hB1 : ((k : Int) == 42) = false := by rw [beq_eq_false_iff_ne]; omega
              have hB2 : ((k : Int) == 36) = false := by rw [beq_eq_false_iff_ne]; omega
              have hB3 : ((k : Int) == 119) = true := by rw [beq_iff_eq]; omega
              have hns : nm.size < R.size := by
                rcases HK.out with e | e | e | e | e | e
                · omega
                · omega
                · omega
                · exact e.2.2
                · omega
                · omega
              have HI : Hid (∀ w2, J U n w2 → Calls Tryd.prog 22 #[.pointer (some ⟨b, 0, none⟩), .string nm] w2 (ExTo cp A J U n nm w2)) :=
                Lib.hid (fun w2 hj => IH.out U n nm w2 (Nat.lt_of_lt_of_le (Nat.lt_of_lt_of_le (muE_less hns) HU.out) HM.out) (by omega) h5 hj)
              have HK9 := Lib.hid k119
              clear HK IH HM k34 hlt hns k119
              go_wp2_with (first
                | (go_at_call 28; refine (HF.out _).mono ?_; rintro e w1 ⟨rfl, hb⟩; have l1 := (HL.out.below HO.out hb).alloc HO.out (.cells #[.int .u8 k, .string nm, .int .i64 st, .int .i64 a, .int .i64 z] 65); have hsz1 := hb.size; have hnu := HNU.out w1.heap.size hsz1; have L1 := Lib.hid l1; clear l1 hb)
                | (at_builtin
                   refine wpList_append_own_string _ rfl (.tmp 23) (.tmp 27) 41 9 rfl w.heap.size 5 i0 Tryd.underlying41 Tryd.underlying9 hi0 hz0 hz1 hz2 _ D.size _ rfl L1.out.own (R.extract 0 a) rfl (by have := HDZ.out; rw [this.2.2]; unfold maxLen; omega) (by have := HDZ.out; rw [this.2.2]; omega) (by simp; omega) ?_
                   intro v2 w2 ho2 hg2 _
                   obtain ⟨l2, e2, hs2⟩ := L1.out.app HO.out ho2 hg2
                   rw [← HD2.out] at l2
                   obtain ⟨p0, p1, p2, p3, p4, pf⟩ := e2.five
                   obtain ⟨S2, c2, rfl⟩ := own_form l2.own
                   have L2 := Lib.hid l2
                   have E2 := Lib.hid e2
                   have hsz2 := l2.size
                   clear ho2 hg2 l2 e2))
              refine (HI.out _ L2.out.j).mono ?_
              rintro e w3 ⟨U3, o3, m3, hx3, he3, hj3, hT3, hn3, h03, h53⟩
              have hne : ¬ U w1.heap.size := hnu
              have e3 : Blk w3 w1.heap.size 65 #[.int .u8 k, .string nm, .int .i64 st, .int .i64 a, .int .i64 z] := hT3.blk E2.out hne
              have hnu3 : ¬ U3 w1.heap.size := fun h => by
                rcases hn3 _ h with e | e
                · exact hnu e
                · omega
              have L3 := Lib.hid (L2.out.asked HO.out hj3 hT3 hn3)
              clear hj3 hT3 hn3 hne p0 p1 p2 p3 p4 pf
              obtain ⟨p0, p1, p2, p3, p4, pf⟩ := e3.five
              cases o3 with
              | none =>
                have he4 : e = thrownL := he3
                rw [he4]
                clear he3 he4
                have HX := Lib.hid (HX.out _ _ (.wFell HE.out HK9.out hx3))
                go_wp2_with fail
                exact ⟨rfl, L3.out.done (Nat.le_trans h0 h03) h53 HX.out⟩
              | some t =>
                have he4 : e = .returned (.string t) := he3
                rw [he4]
                clear he3 he4
                have hmn := akO_le (A := A) (x := ⟨k, t, st, a, z⟩) (o := D2.size + tz) h53
                rcases hak : akO A m3 ⟨k, t, st, a, z⟩ (D2.size + tz) with ⟨o, m⟩
                rw [hak] at hmn
                have hak' := hak
                rw [← (HE2.out ⟨k, nm, st, a, z⟩).1] at hak'
                have HJ : Hid (Lm J U0 w U3 m3 D2 (.slice S2 D2.size c2) (w3.setCell ⟨w1.heap.size, 1, none⟩ (.string t))) := Lib.hid (L3.out.set HO.out (by omega) hnu3 e3 (by decide))
                have hsz3 := L3.out.size
                cases o with
                | none =>
                  have HA : Hid (∀ w2, J U3 m3 w2 → Calls Tryd.prog 29 #[.pointer (some ⟨b, 0, none⟩), .agg #[.int .u8 k, .string t, .int .i64 st, .int .i64 a, .int .i64 z], .int .i64 ((D2.size : Nat) + (tz : Nat))] w2 fun r w' => r = thrownL ∧ ∃ U', J U' m w' ∧ Turn U3 w2 w' ∧ ∀ i, U' i → U3 i ∨ w2.heap.size ≤ i) :=
                    Lib.hid (fun w2 hj => by have := HO.out.ask hj h53 ⟨k, t, st, a, z⟩ (D2.size + tz) ((D2.size : Nat) + (tz : Nat)) (by omega) hle; rw [hak] at this; exact this)
                  have HX := Lib.hid (HX.out _ _ (.wNo HE.out HK9.out hx3 hak'))
                  clear HE HE2 hak hak' e3 hx3 HI HF
                  go_wp2_with (go_at_call 29; refine (HA.out _ HJ.out.j).mono ?_; rintro e w4 ⟨rfl, U4, hj4, hT4, hn4⟩; have L4 := Lib.hid (HJ.out.asked HO.out hj4 hT4 hn4); clear hj4 hT4 hn4)
                  exact ⟨rfl, L4.out.done (Nat.le_trans (Nat.le_trans h0 h03) hmn.1) hmn.2 HX.out⟩
                | some u =>
                  have hsm := akO_some hak
                  have hlm : n < m := by omega
                  have htb : u.size + (D2.size + tz) ≤ 8000 := hsm.2.1
                  have HA : Hid (∀ w2, J U3 m3 w2 → Calls Tryd.prog 29 #[.pointer (some ⟨b, 0, none⟩), .agg #[.int .u8 k, .string t, .int .i64 st, .int .i64 a, .int .i64 z], .int .i64 ((D2.size : Nat) + (tz : Nat))] w2 fun r w' => r = .returned (.string u) ∧ ∃ U', J U' m w' ∧ Turn U3 w2 w' ∧ ∀ i, U' i → U3 i ∨ w2.heap.size ≤ i) :=
                    Lib.hid (fun w2 hj => by have := HO.out.ask hj h53 ⟨k, t, st, a, z⟩ (D2.size + tz) ((D2.size : Nat) + (tz : Nat)) (by omega) hle; rw [hak] at this; exact this)
                  have HX : Hid (∀ o' m', Exp cp A m (D2 ++ u) (R.extract z R.size) o' m' → Exp cp A n0 ⟨#[]⟩ R0 o' m') := Lib.hid (fun o' m' h => HX.out o' m' (.wNum HE.out HK9.out hx3 hak' (by rw [(HE2.out ⟨k, nm, st, a, z⟩).2.1, (HE2.out ⟨k, nm, st, a, z⟩).2.2]; exact h)))
                  clear HE HE2 hak hak' e3 hx3 HI HF hsm
                  go_wp2_with (first
                    | (go_at_call 29; refine (HA.out _ HJ.out.j).mono ?_; rintro e w4 ⟨rfl, U4, hj4, hT4, hn4⟩; have L4 := Lib.hid (HJ.out.asked HO.out hj4 hT4 hn4); clear hj4 hT4 hn4)
                    | (at_builtin
                       refine wpList_append_own_string _ rfl (.tmp 59) (.tmp 67) 41 9 rfl w.heap.size 5 i0 Tryd.underlying41 Tryd.underlying9 hi0 hz0 hz1 hz2 _ D2.size _ rfl L4.out.own u rfl (by unfold maxLen; omega) (by omega) L4.out.size ?_
                       intro v5 w5 ho4 hg4 _
                       have L5 := Lib.hid (L4.out.grown HO.out (D' := D2 ++ u) hg4 (by rw [app_size, app_cells]; exact ho4))
                       clear ho4 hg4))
                  go_roundw
                  case rel => exact ⟨U4, m, R.extract z R.size, _, rfl, L5.out, Nat.le_trans (Nat.le_trans h0 h03) hmn.1, hmn.2, by rw [app_size, hts]; omega, HX.out, Nat.le_trans (Nat.le_of_lt (muE_ask hlm hmn.2 (by rw [hts]; omega))) HU.out⟩
                  case measure =>
                    show muE (cntAt w5 b) (strSz (.string (R.extract z R.size))) < muE (cntAt wr b) (strSz (.string R))
                    rw [HC.out, cnt_of HO.out L5.out.j]
                    exact muE_ask hlm hmn.2 (by rw [hts]; omega)
            · have hk : named k := by
                rcases HK.out with e | e | e | e | e | e
                · exact .inl e
                · exact .inr (.inl e)
                · exact .inr (.inr e)
                · exact absurd e.1 k119
                · exact absurd e k34
                · exact absurd e.1 hlt
              have hB3 : ((k : Int) == 119) = false := by rw [beq_eq_false_iff_ne]; omega
              have hB5 : ((k : Int) == 34) = false := by rw [beq_eq_false_iff_ne]; omega
              have hmn := akO_le (A := A) (x := ⟨k, nm, st, a, z⟩) (o := D2.size + tz) h5
              rcases hak : akO A n ⟨k, nm, st, a, z⟩ (D2.size + tz) with ⟨o, m⟩
              rw [hak] at hmn
              have hak' := hak
              rw [← (HE2.out ⟨k, nm, st, a, z⟩).1] at hak'
              cases o with
              | none =>
                have HA : Hid (∀ w2, J U n w2 → Calls Tryd.prog 29 #[.pointer (some ⟨b, 0, none⟩), .agg #[.int .u8 k, .string nm, .int .i64 st, .int .i64 a, .int .i64 z], .int .i64 ((D2.size : Nat) + (tz : Nat))] w2 fun r w' => r = thrownL ∧ ∃ U', J U' m w' ∧ Turn U w2 w' ∧ ∀ i, U' i → U i ∨ w2.heap.size ≤ i) :=
                  Lib.hid (fun w2 hj => by have := HO.out.ask hj h5 ⟨k, nm, st, a, z⟩ (D2.size + tz) ((D2.size : Nat) + (tz : Nat)) (by omega) hle; rw [hak] at this; exact this)
                have HX := Lib.hid (HX.out _ _ (.no HE.out hk hak'))
                clear HK IH HM HE HE2 k34 hlt k119 hak hak'
                by_cases k42 : k = 42
                · have hB1 : ((k : Int) == 42) = true := by rw [beq_iff_eq]; omega
                  clear hk k42
                  go_wp2_with (first
                    | (go_at_call 28; refine (HF.out _).mono ?_; rintro e w1 ⟨rfl, hb⟩; have l1 := (HL.out.below HO.out hb).alloc HO.out (.cells #[.int .u8 k, .string nm, .int .i64 st, .int .i64 a, .int .i64 z] 65); have hsz1 := hb.size; have hnu := HNU.out w1.heap.size hsz1; have L1 := Lib.hid l1; clear l1 hb)
                    | (at_builtin
                       refine wpList_append_own_string _ rfl (.tmp 23) (.tmp 27) 41 9 rfl w.heap.size 5 i0 Tryd.underlying41 Tryd.underlying9 hi0 hz0 hz1 hz2 _ D.size _ rfl L1.out.own (R.extract 0 a) rfl (by have := HDZ.out; rw [this.2.2]; unfold maxLen; omega) (by have := HDZ.out; rw [this.2.2]; omega) (by simp; omega) ?_
                       intro v2 w2 ho2 hg2 _
                       obtain ⟨l2, e2, hs2⟩ := L1.out.app HO.out ho2 hg2
                       rw [← HD2.out] at l2
                       obtain ⟨p0, p1, p2, p3, p4, pf⟩ := e2.five
                       obtain ⟨S2, c2, rfl⟩ := own_form l2.own
                       have L2 := Lib.hid l2
                       have E2 := Lib.hid e2
                       have hsz2 := l2.size
                       clear ho2 hg2 l2 e2)
                    | (go_at_call 29; refine (HA.out _ L2.out.j).mono ?_; rintro e w3 ⟨rfl, U3, hj3, hT3, hn3⟩; have L3 := Lib.hid (L2.out.asked HO.out hj3 hT3 hn3); clear hj3 hT3 hn3))
                  exact ⟨rfl, L3.out.done (Nat.le_trans h0 hmn.1) hmn.2 HX.out⟩
                · have hB1 : ((k : Int) == 42) = false := by rw [beq_eq_false_iff_ne]; omega
                  by_cases k36 : k = 36
                  · have hB2 : ((k : Int) == 36) = true := by rw [beq_iff_eq]; omega
                    clear hk k42 k36
                    go_wp2_with (first
                      | (go_at_call 28; refine (HF.out _).mono ?_; rintro e w1 ⟨rfl, hb⟩; have l1 := (HL.out.below HO.out hb).alloc HO.out (.cells #[.int .u8 k, .string nm, .int .i64 st, .int .i64 a, .int .i64 z] 65); have hsz1 := hb.size; have hnu := HNU.out w1.heap.size hsz1; have L1 := Lib.hid l1; clear l1 hb)
                      | (at_builtin
                         refine wpList_append_own_string _ rfl (.tmp 23) (.tmp 27) 41 9 rfl w.heap.size 5 i0 Tryd.underlying41 Tryd.underlying9 hi0 hz0 hz1 hz2 _ D.size _ rfl L1.out.own (R.extract 0 a) rfl (by have := HDZ.out; rw [this.2.2]; unfold maxLen; omega) (by have := HDZ.out; rw [this.2.2]; omega) (by simp; omega) ?_
                         intro v2 w2 ho2 hg2 _
                         obtain ⟨l2, e2, hs2⟩ := L1.out.app HO.out ho2 hg2
                         rw [← HD2.out] at l2
                         obtain ⟨p0, p1, p2, p3, p4, pf⟩ := e2.five
                         obtain ⟨S2, c2, rfl⟩ := own_form l2.own
                         have L2 := Lib.hid l2
                         have E2 := Lib.hid e2
                         have hsz2 := l2.size
                         clear ho2 hg2 l2 e2)
                      | (go_at_call 29; refine (HA.out _ L2.out.j).mono ?_; rintro e w3 ⟨rfl, U3, hj3, hT3, hn3⟩; have L3 := Lib.hid (L2.out.asked HO.out hj3 hT3 hn3); clear hj3 hT3 hn3))
                    exact ⟨rfl, L3.out.done (Nat.le_trans h0 hmn.1) hmn.2 HX.out⟩
                  · have hB2 : ((k : Int) == 36) = false := by rw [beq_eq_false_iff_ne]; omega
                    have k110 : k = 110 := by rcases hk with e | e | e <;> omega
                    have hB4 : ((k : Int) == 110) = true := by rw [beq_iff_eq]; omega
                    clear hk k42 k36 k110
                    go_wp2_with (first
                      | (go_at_call 28; refine (HF.out _).mono ?_; rintro e w1 ⟨rfl, hb⟩; have l1 := (HL.out.below HO.out hb).alloc HO.out (.cells #[.int .u8 k, .string nm, .int .i64 st, .int .i64 a, .int .i64 z] 65); have hsz1 := hb.size; have hnu := HNU.out w1.heap.size hsz1; have L1 := Lib.hid l1; clear l1 hb)
                      | (at_builtin
                         refine wpList_append_own_string _ rfl (.tmp 23) (.tmp 27) 41 9 rfl w.heap.size 5 i0 Tryd.underlying41 Tryd.underlying9 hi0 hz0 hz1 hz2 _ D.size _ rfl L1.out.own (R.extract 0 a) rfl (by have := HDZ.out; rw [this.2.2]; unfold maxLen; omega) (by have := HDZ.out; rw [this.2.2]; omega) (by simp; omega) ?_
                         intro v2 w2 ho2 hg2 _
                         obtain ⟨l2, e2, hs2⟩ := L1.out.app HO.out ho2 hg2
                         rw [← HD2.out] at l2
                         obtain ⟨p0, p1, p2, p3, p4, pf⟩ := e2.five
                         obtain ⟨S2, c2, rfl⟩ := own_form l2.own
                         have L2 := Lib.hid l2
                         have E2 := Lib.hid e2
                         have hsz2 := l2.size
                         clear ho2 hg2 l2 e2)
                      | (go_at_call 29; refine (HA.out _ L2.out.j).mono ?_; rintro e w3 ⟨rfl, U3, hj3, hT3, hn3⟩; have L3 := Lib.hid (L2.out.asked HO.out hj3 hT3 hn3); clear hj3 hT3 hn3))
                    exact ⟨rfl, L3.out.done (Nat.le_trans h0 hmn.1) hmn.2 HX.out⟩
              | some t =>
                have hsm := akO_some hak
                have hlm : n < m := by omega
                have htb : t.size + (D2.size + tz) ≤ 8000 := hsm.2.1
                have HA : Hid (∀ w2, J U n w2 → Calls Tryd.prog 29 #[.pointer (some ⟨b, 0, none⟩), .agg #[.int .u8 k, .string nm, .int .i64 st, .int .i64 a, .int .i64 z], .int .i64 ((D2.size : Nat) + (tz : Nat))] w2 fun r w' => r = .returned (.string t) ∧ ∃ U', J U' m w' ∧ Turn U w2 w' ∧ ∀ i, U' i → U i ∨ w2.heap.size ≤ i) :=
                  Lib.hid (fun w2 hj => by have := HO.out.ask hj h5 ⟨k, nm, st, a, z⟩ (D2.size + tz) ((D2.size : Nat) + (tz : Nat)) (by omega) hle; rw [hak] at this; exact this)
                clear HK IH HM k34 hlt k119 hsm
                by_cases k42 : k = 42
                · have hB1 : ((k : Int) == 42) = true := by rw [beq_iff_eq]; omega
                  have HX : Hid (∀ o' m', Exp cp A m D2 (t ++ R.extract z R.size) o' m' → Exp cp A n0 ⟨#[]⟩ R0 o' m') := Lib.hid (fun o' m' h => HX.out o' m' (.again HE.out (.inl k42) hak' (by rw [(HE2.out ⟨k, nm, st, a, z⟩).2.1, (HE2.out ⟨k, nm, st, a, z⟩).2.2]; exact h)))
                  have ka := fun (w : World) => run_string_add_sum (P := Tryd.prog) w t (R.extract z R.size) (by rw [hts]; omega)
                  clear hk k42 HE HE2 hak hak'
                  go_wp2_with (first
                    | (go_at_call 28; refine (HF.out _).mono ?_; rintro e w1 ⟨rfl, hb⟩; have l1 := (HL.out.below HO.out hb).alloc HO.out (.cells #[.int .u8 k, .string nm, .int .i64 st, .int .i64 a, .int .i64 z] 65); have hsz1 := hb.size; have hnu := HNU.out w1.heap.size hsz1; have L1 := Lib.hid l1; clear l1 hb)
                    | (at_builtin
                       refine wpList_append_own_string _ rfl (.tmp 23) (.tmp 27) 41 9 rfl w.heap.size 5 i0 Tryd.underlying41 Tryd.underlying9 hi0 hz0 hz1 hz2 _ D.size _ rfl L1.out.own (R.extract 0 a) rfl (by have := HDZ.out; rw [this.2.2]; unfold maxLen; omega) (by have := HDZ.out; rw [this.2.2]; omega) (by simp; omega) ?_
                       intro v2 w2 ho2 hg2 _
                       obtain ⟨l2, e2, hs2⟩ := L1.out.app HO.out ho2 hg2
                       rw [← HD2.out] at l2
                       obtain ⟨p0, p1, p2, p3, p4, pf⟩ := e2.five
                       obtain ⟨S2, c2, rfl⟩ := own_form l2.own
                       have L2 := Lib.hid l2
                       have E2 := Lib.hid e2
                       have hsz2 := l2.size
                       clear ho2 hg2 l2 e2)
                    | (go_at_call 29; refine (HA.out _ L2.out.j).mono ?_; rintro e w3 ⟨rfl, U3, hj3, hT3, hn3⟩; have L3 := Lib.hid (L2.out.asked HO.out hj3 hT3 hn3); clear hj3 hT3 hn3))
                  go_roundw
                  case rel => exact ⟨U3, m, t ++ R.extract z R.size, D2, rfl, L3.out, Nat.le_trans h0 hmn.1, hmn.2, by rw [app_size, hts]; omega, HX.out, Nat.le_trans (Nat.le_of_lt (muE_ask hlm hmn.2 (by rw [app_size, hts]; omega))) HU.out⟩
                  case measure =>
                    show muE (cntAt w3 b) (strSz (.string (t ++ R.extract z R.size))) < muE (cntAt wr b) (strSz (.string R))
                    rw [HC.out, cnt_of HO.out L3.out.j]
                    exact muE_ask hlm hmn.2 (by rw [app_size, hts]; omega)
                · have hB1 : ((k : Int) == 42) = false := by rw [beq_eq_false_iff_ne]; omega
                  by_cases k36 : k = 36
                  · have hB2 : ((k : Int) == 36) = true := by rw [beq_iff_eq]; omega
                    have HX : Hid (∀ o' m', Exp cp A m D2 (t ++ R.extract z R.size) o' m' → Exp cp A n0 ⟨#[]⟩ R0 o' m') := Lib.hid (fun o' m' h => HX.out o' m' (.again HE.out (.inr k36) hak' (by rw [(HE2.out ⟨k, nm, st, a, z⟩).2.1, (HE2.out ⟨k, nm, st, a, z⟩).2.2]; exact h)))
                    have ka := fun (w : World) => run_string_add_sum (P := Tryd.prog) w t (R.extract z R.size) (by rw [hts]; omega)
                    clear hk k42 k36 HE HE2 hak hak'
                    go_wp2_with (first
                      | (go_at_call 28; refine (HF.out _).mono ?_; rintro e w1 ⟨rfl, hb⟩; have l1 := (HL.out.below HO.out hb).alloc HO.out (.cells #[.int .u8 k, .string nm, .int .i64 st, .int .i64 a, .int .i64 z] 65); have hsz1 := hb.size; have hnu := HNU.out w1.heap.size hsz1; have L1 := Lib.hid l1; clear l1 hb)
                      | (at_builtin
                         refine wpList_append_own_string _ rfl (.tmp 23) (.tmp 27) 41 9 rfl w.heap.size 5 i0 Tryd.underlying41 Tryd.underlying9 hi0 hz0 hz1 hz2 _ D.size _ rfl L1.out.own (R.extract 0 a) rfl (by have := HDZ.out; rw [this.2.2]; unfold maxLen; omega) (by have := HDZ.out; rw [this.2.2]; omega) (by simp; omega) ?_
                         intro v2 w2 ho2 hg2 _
                         obtain ⟨l2, e2, hs2⟩ := L1.out.app HO.out ho2 hg2
                         rw [← HD2.out] at l2
                         obtain ⟨p0, p1, p2, p3, p4, pf⟩ := e2.five
                         obtain ⟨S2, c2, rfl⟩ := own_form l2.own
                         have L2 := Lib.hid l2
                         have E2 := Lib.hid e2
                         have hsz2 := l2.size
                         clear ho2 hg2 l2 e2)
                      | (go_at_call 29; refine (HA.out _ L2.out.j).mono ?_; rintro e w3 ⟨rfl, U3, hj3, hT3, hn3⟩; have L3 := Lib.hid (L2.out.asked HO.out hj3 hT3 hn3); clear hj3 hT3 hn3))
                    go_roundw
                    case rel => exact ⟨U3, m, t ++ R.extract z R.size, D2, rfl, L3.out, Nat.le_trans h0 hmn.1, hmn.2, by rw [app_size, hts]; omega, HX.out, Nat.le_trans (Nat.le_of_lt (muE_ask hlm hmn.2 (by rw [app_size, hts]; omega))) HU.out⟩
                    case measure =>
                      show muE (cntAt w3 b) (strSz (.string (t ++ R.extract z R.size))) < muE (cntAt wr b) (strSz (.string R))
                      rw [HC.out, cnt_of HO.out L3.out.j]
                      exact muE_ask hlm hmn.2 (by rw [app_size, hts]; omega)
                  · have hB2 : ((k : Int) == 36) = false := by rw [beq_eq_false_iff_ne]; omega
                    have k110 : k = 110 := by rcases hk with e | e | e <;> omega
                    have hB4 : ((k : Int) == 110) = true := by rw [beq_iff_eq]; omega
                    have HX : Hid (∀ o' m', Exp cp A m (D2 ++ t) (R.extract z R.size) o' m' → Exp cp A n0 ⟨#[]⟩ R0 o' m') := Lib.hid (fun o' m' h => HX.out o' m' (.num HE.out k110 hak' (by rw [(HE2.out ⟨k, nm, st, a, z⟩).2.1, (HE2.out ⟨k, nm, st, a, z⟩).2.2]; exact h)))
                    clear hk k42 k36 k110 HE HE2 hak hak'
                    go_wp2_with (first
                      | (go_at_call 28; refine (HF.out _).mono ?_; rintro e w1 ⟨rfl, hb⟩; have l1 := (HL.out.below HO.out hb).alloc HO.out (.cells #[.int .u8 k, .string nm, .int .i64 st, .int .i64 a, .int .i64 z] 65); have hsz1 := hb.size; have hnu := HNU.out w1.heap.size hsz1; have L1 := Lib.hid l1; clear l1 hb)
                      | (at_builtin
                         refine wpList_append_own_string _ rfl (.tmp 23) (.tmp 27) 41 9 rfl w.heap.size 5 i0 Tryd.underlying41 Tryd.underlying9 hi0 hz0 hz1 hz2 _ D.size _ rfl L1.out.own (R.extract 0 a) rfl (by have := HDZ.out; rw [this.2.2]; unfold maxLen; omega) (by have := HDZ.out; rw [this.2.2]; omega) (by simp; omega) ?_
                         intro v2 w2 ho2 hg2 _
                         obtain ⟨l2, e2, hs2⟩ := L1.out.app HO.out ho2 hg2
                         rw [← HD2.out] at l2
                         obtain ⟨p0, p1, p2, p3, p4, pf⟩ := e2.five
                         obtain ⟨S2, c2, rfl⟩ := own_form l2.own
                         have L2 := Lib.hid l2
                         have E2 := Lib.hid e2
                         have hsz2 := l2.size
                         clear ho2 hg2 l2 e2)
                      | (go_at_call 29; refine (HA.out _ L2.out.j).mono ?_; rintro e w3 ⟨rfl, U3, hj3, hT3, hn3⟩; have L3 := Lib.hid (L2.out.asked HO.out hj3 hT3 hn3); clear hj3 hT3 hn3)
                      | (at_builtin
                         refine wpList_append_own_string _ rfl (.tmp 59) (.tmp 67) 41 9 rfl w.heap.size 5 i0 Tryd.underlying41 Tryd.underlying9 hi0 hz0 hz1 hz2 _ D2.size _ rfl L3.out.own t rfl (by unfold maxLen; omega) (by omega) L3.out.size ?_
                         intro v4 w4 ho4 hg4 _
                         have L4 := Lib.hid (L3.out.grown HO.out (D' := D2 ++ t) hg4 (by rw [app_size, app_cells]; exact ho4))
                         clear ho4 hg4))
                    go_roundw
                    case rel => exact ⟨U3, m, R.extract z R.size, _, rfl, L4.out, Nat.le_trans h0 hmn.1, hmn.2, by rw [app_size, hts]; omega, HX.out, Nat.le_trans (Nat.le_of_lt (muE_ask hlm hmn.2 (by rw [hts]; omega))) HU.out⟩
                    case measure =>
                      show muE (cntAt w4 b) (strSz (.string (R.extract z R.size))) < muE (cntAt wr b) (strSz (.string R))
                      rw [HC.out, cnt_of HO.out L4.out.j]
                      exact muE_ask hlm hmn.2 (by rw [hts]; omega)
end Go.Proofs.YtbkcnopkibdlbaaDoor
