/- Walk: the statement on a full book. -/
import Derived.Test.YtaamjccffkdlhaaGreatDoorKn
namespace Go.Proofs.YtaamjccffkdlhaaGreatDoor
open Go.RowKit Go.Maps Go.WideMaps

theorem u64_mod (n : Int) (k : Nat) (hk : 0 < k) (hk2 : k ≤ 1000000000) : ∃ m : Nat, m < k ∧ wrap64 ((IntKind.u64.wrap n).tmod (k : Int)) = m := by
  have h0 : 0 ≤ IntKind.u64.wrap n := by
    show 0 ≤ n % 18446744073709551616
    omega
  rw [Int.tmod_eq_emod_of_nonneg h0]
  have h1 := Int.emod_nonneg (IntKind.u64.wrap n) (show (k : Int) ≠ 0 by omega)
  have h2 := Int.emod_lt_of_pos (IntKind.u64.wrap n) (show (0 : Int) < (k : Int) by omega)
  refine ⟨(IntKind.u64.wrap n % (k : Int)).toNat, by omega, ?_⟩
  unfold wrap64
  omega
/-- The document's Decimal, of a number from 0 on. -/
theorem nDec (n : Nat) (hn : n ≤ 1000000000) (w : World) : Calls Tryz.prog 24 #[.int .i64 n] w fun e w' => e = .returned (.string ⟨(digL n).toArray⟩) ∧ Below w.heap.size w w' := by
  have H := Lib.hid (fun w => nDig n (by omega) w)
  go_enter Tryz.func24, Tryz.ntmps24
  go_wp2_with (go_at_call 46; refine (H.out _).mono ?_; rintro e w1 ⟨rfl, hb1⟩)
  go_ret
  exact ⟨rfl, hb1⟩
def valL (l : List UInt8) : Nat := l.foldl (fun a c => a * 10 + (c.toNat - 48)) 0
theorem valL_dig (n : Nat) : valL (digL n) = n := by
  induction n using Nat.strongRecOn with
  | ind n ih =>
    by_cases h : n < 10
    · rw [dig_one h]
      show 0 * 10 + ((48 + n).toUInt8.toNat - 48) = n
      rw [dig_byte n h]; omega
    · rw [dig_ten h]
      unfold valL
      rw [List.foldl_append]
      have := ih (n / 10) (by omega)
      unfold valL at this
      rw [this]
      show n / 10 * 10 + ((48 + n % 10).toUInt8.toNat - 48) = n
      rw [dig_byte (n % 10) (by omega)]; omega
/-- The names that are set. -/
def nmF (k : Nat) : ByteArray := ⟨#[114]⟩ ++ ⟨(digL k).toArray⟩
theorem nmF_data (k : Nat) : (nmF k).data.toList = 114 :: digL k := by unfold nmF; rw [app_data]; rfl
theorem nmF_inj {j k : Nat} (h : nmF j = nmF k) : j = k := by
  have h1 := congrArg (fun s => s.data.toList) h
  simp only [nmF_data, List.cons.injEq, true_and] at h1
  rw [← valL_dig j, h1, valL_dig]
theorem nmF_size {k : Nat} (h : k ≤ 1000000) : (nmF k).size ≤ 11 := by
  rw [size_len, nmF_data, List.length_cons]
  have := digL_9 (n := k) (by omega)
  omega
theorem nmF_ok {k : Nat} (h : k ≤ 1000000) : nameB (nmF k) = true := by
  have hs := nmF_size h
  have hp : 1 ≤ (nmF k).size := by rw [size_len, nmF_data, List.length_cons]; omega
  unfold nameB
  rw [decide_eq_true hp, decide_eq_true (show (nmF k).size ≤ 20 by omega)]
  show allB nmB (nmF k) = true
  unfold allB
  rw [List.all_eq_true, nmF_data]
  intro c hc
  rcases List.mem_cons.1 hc with rfl | hc
  · rfl
  · have := digL_all k c hc
    simp [nmB]; omega
theorem hasB_put {L : List Ent} (hL : Srt L) (s m : ByteArray) (r : Reg) : hasB (putR L s r) m = (decide (m = s) || hasB L m) := by
  rw [← has_DB hL.put, ← put_DB hL, ← has_DB hL]
  by_cases e : m = s
  · subst e
    rw [Maps.has_put_same (D := DB L) ⟨_, rfl⟩ (by simp [kOf, WideAt.IsKeyLit])]
    simp
  · rw [Maps.has_put_other (fun e' => e (by
      unfold kOf at e'
      injection e' with e'
      exact ba_ext e'))]
    simp [e]
def more : ByteArray := ⟨#[109, 111, 114, 101]⟩
theorem more_no (k : Nat) : more ≠ nmF k := by
  intro e
  have h1 : more.data.toList = (nmF k).data.toList := by rw [e]
  rw [nmF_data, show more.data.toList = [109, 111, 114, 101] from rfl] at h1
  injection h1 with h1 _
  revert h1
  decide
def Fill (f i : Nat) (L : List Ent) : Prop := L.length = i ∧ ∀ s, hasB L s = true ↔ ∃ j, j < i ∧ s = nmF (f + j)
theorem fill_0 (f : Nat) : Fill f 0 [] := ⟨rfl, fun s => ⟨fun h => (by cases h), fun ⟨j, h, _⟩ => by omega⟩⟩
theorem fill_new {f i : Nat} {L : List Ent} (h : Fill f i L) : hasB L (nmF (f + i)) = false := by
  cases hh : hasB L (nmF (f + i))
  · rfl
  · obtain ⟨j, hj, e⟩ := (h.2 _).1 hh
    have := nmF_inj e
    omega
theorem fill_put {f i : Nat} {L : List Ent} (hL : Srt L) (h : Fill f i L) (r : Reg) : Fill f (i + 1) (putR L (nmF (f + i)) r) := by
  refine ⟨by rw [len_put, fill_new h, h.1]; rfl, fun s => ?_⟩
  rw [hasB_put hL]
  simp only [Bool.or_eq_true, decide_eq_true_eq, h.2 s]
  constructor
  · rintro (rfl | ⟨j, hj, rfl⟩)
    · exact ⟨i, by omega, rfl⟩
    · exact ⟨j, by omega, rfl⟩
  · rintro ⟨j, hj, rfl⟩
    by_cases e : j = i
    · subst e; exact .inl rfl
    · exact .inr ⟨j, by omega, rfl⟩
theorem fill_more {f i : Nat} {L : List Ent} (h : Fill f i L) : hasB L more = false := by
  cases hh : hasB L more
  · rfl
  · obtain ⟨j, _, e⟩ := (h.2 _).1 hh
    exact absurd e (more_no _)
theorem fill_old {f i j : Nat} {L : List Ent} (h : Fill f i L) (hj : j < i) : hasB L (nmF (f + j)) = true := (h.2 _).2 ⟨j, hj, rfl⟩
theorem more_ok : nameB more = true := by decide
theorem chE_new {f i : Nat} {L : List Ent} (h : Fill f i L) (hi : i < 500) (hf : f + i ≤ 1000000) : chE L (nmF (f + i)) 0 = 0 := by
  unfold chE
  rw [nmF_ok hf, fill_new h, h.1, decide_eq_true hi]; rfl
theorem chL_new {f i : Nat} {L : List Ent} (h : Fill f i L) (hi : i < 500) (hf : f + i ≤ 1000000) (r : Reg) : chL L (nmF (f + i)) 0 r = putR L (nmF (f + i)) r := by
  unfold chL
  rw [nmF_ok hf, fill_new h, h.1, decide_eq_true hi]; rfl
theorem chE_more {f : Nat} {L : List Ent} (h : Fill f 500 L) : chE L more 0 = 9 := by
  unfold chE
  rw [more_ok, fill_more h, h.1]; rfl
theorem chL_more {f : Nat} {L : List Ent} (h : Fill f 500 L) (r : Reg) : chL L more 0 r = L := by
  unfold chL
  rw [more_ok, fill_more h, h.1]; rfl
theorem chE_old {f j : Nat} {L : List Ent} (h : Fill f 500 L) (hj : j < 500) (hf : f + j ≤ 1000000) : chE L (nmF (f + j)) 0 = 0 := by
  unfold chE
  rw [nmF_ok hf, fill_old h hj]; rfl
theorem chL_old {f j : Nat} {L : List Ent} (h : Fill f 500 L) (hj : j < 500) (hf : f + j ≤ 1000000) (r : Reg) : chL L (nmF (f + j)) 0 r = putR L (nmF (f + j)) r := by
  unfold chL
  rw [nmF_ok hf, fill_old h hj]; rfl
theorem put_old_len {f j : Nat} {L : List Ent} (h : Fill f 500 L) (hj : j < 500) (r : Reg) : (putR L (nmF (f + j)) r).length = 500 := by rw [len_put, fill_old h hj, h.1]; rfl
theorem put_old_more {f j : Nat} {L : List Ent} (hL : Srt L) (h : Fill f 500 L) (r : Reg) : hasB (putR L (nmF (f + j)) r) more = false := by
  rw [hasB_put hL, fill_more h, decide_eq_false (more_no _)]; rfl
def RFl (f g bm : Nat) (w : World) (v7 : Value) (wr : World) : Prop :=
  ∃ (i : Nat) (L : List Ent), i ≤ 500 ∧ v7 = .int .i64 i ∧ BkAt wr g bm L ∧ Fill f i L ∧ Below w.heap.size w wr
/-- Set of one name more; of the name that finds no room; of one that is there. -/
theorem fSet {f i g bm : Nat} {L : List Ent} (v : Int) (hv : rngB v = true) (w : World) (h : BkAt w g bm L) (hf : Fill f i L) (hi : i < 500) (hfi : f + i ≤ 1000000) :
    Calls Tryz.prog 17 #[.pointer (some ⟨g, 0, none⟩), .string (nmF (f + i)), .int .i64 v] w fun e w' => e = .returned (.int .i64 0) ∧ (∃ L', BkAt w' g bm L' ∧ Fill f (i + 1) L') ∧ Turn (· = bm) w w' := by
  have := cSet v (nmF (f + i)) (by have := nmF_size hfi; unfold maxLen; omega) g bm L w h
  rw [hv, show erI true 5 = 0 from rfl, chE_new hf hi hfi, chL_new hf hi hfi] at this
  exact this.mono fun e w' ⟨he, hb, hT⟩ => ⟨he, ⟨_, hb, fill_put h.srt hf _⟩, hT⟩
theorem fMore {f g bm : Nat} {L : List Ent} (v : Int) (hv : rngB v = true) (w : World) (h : BkAt w g bm L) (hf : Fill f 500 L) :
    Calls Tryz.prog 17 #[.pointer (some ⟨g, 0, none⟩), .string more, .int .i64 v] w fun e w' => e = .returned (.int .i64 9) ∧ BkAt w' g bm L ∧ Turn (· = bm) w w' := by
  have := cSet v more (by decide) g bm L w h
  rw [hv, show erI true 5 = 0 from rfl, chE_more hf, chL_more hf] at this
  exact this
theorem fStep {f g bm : Nat} {L : List Ent} (w : World) (h : BkAt w g bm L) (hf : Fill f 500 L) :
    Calls Tryz.prog 18 #[.pointer (some ⟨g, 0, none⟩), .string more, .int .i64 1] w fun e w' => e = .returned (.int .i64 9) ∧ BkAt w' g bm L ∧ Turn (· = bm) w w' := by
  have := cStep 1 more (by decide) g bm L w h
  rw [show rngB 1 = true by decide, show erI true 5 = 0 from rfl, chE_more hf, chL_more hf] at this
  exact this
theorem fFormat {f g bm : Nat} {L : List Ent} (w : World) (h : BkAt w g bm L) (hf : Fill f 500 L) :
    Calls Tryz.prog 19 #[.pointer (some ⟨g, 0, none⟩), .string more, .string ⟨#[105]⟩] w fun e w' => e = .returned (.int .i64 9) ∧ BkAt w' g bm L ∧ Turn (· = bm) w w' := by
  have := cFormat ⟨#[105]⟩ (by decide) more (by decide) g bm L w h
  rw [show fmtB ⟨#[105]⟩ = true by decide, show erI true 4 = 0 from rfl, chE_more hf, chL_more hf] at this
  exact this
theorem fOld {f j g bm : Nat} {L : List Ent} (w : World) (h : BkAt w g bm L) (hf : Fill f 500 L) (hj : j < 500) (hfj : f + j ≤ 1000000) :
    Calls Tryz.prog 17 #[.pointer (some ⟨g, 0, none⟩), .string (nmF (f + j)), .int .i64 1] w fun e w' => e = .returned (.int .i64 0) ∧ (∃ L', BkAt w' g bm L' ∧ L'.length = 500 ∧ hasB L' more = false) ∧ Turn (· = bm) w w' := by
  have := cSet 1 (nmF (f + j)) (by have := nmF_size hfj; unfold maxLen; omega) g bm L w h
  rw [show rngB 1 = true by decide, show erI true 5 = 0 from rfl, chE_old hf hj hfj, chL_old hf hj hfj] at this
  exact this.mono fun e w' ⟨he, hb, hT⟩ => ⟨he, ⟨_, hb, put_old_len hf hj _, put_old_more h.srt hf _⟩, hT⟩
theorem fHas {g bm : Nat} {L : List Ent} (w : World) (h : BkAt w g bm L) (hm : hasB L more = false) :
    Calls Tryz.prog 22 #[.pointer (some ⟨g, 0, none⟩), .string more] w fun e w' => e = .returned (.bool false) ∧ BkAt w' g bm L ∧ Below w.heap.size w w' := by
  have := cHas more (by decide) g bm L w h
  rw [hm] at this
  exact this.mono fun e w' ⟨he, hb⟩ => ⟨he, h.below hb, hb⟩
theorem fNames {g bm : Nat} {L : List Ent} (w : World) (h : BkAt w g bm L) (hl : L.length = 500) :
    Calls Tryz.prog 23 #[.pointer (some ⟨g, 0, none⟩)] w fun e w' => (∃ a c, e = .returned (.slice a 500 c)) ∧ Below w.heap.size w w' := by
  refine (cNames g bm L w h).mono ?_
  rintro e w' ⟨v, rfl, hrow, hb⟩
  refine ⟨?_, hb⟩
  rw [hl] at hrow
  rcases hrow.2 with ⟨_, h0⟩ | ⟨g', cap, cur, rfl, _⟩
  · omega
  · exact ⟨_, _, rfl⟩
set_option maxRecDepth 100000 in
set_option maxHeartbeats 1000000 in
theorem lFullIn (seed value : Int) (w : World) (hN : NumAt w) (hP : PowAt w) (h1 : -1000000000 ≤ value) (h2 : value ≤ 1000000000) :
    Calls Tryz.prog 6 #[.int .i64 seed, .int .i64 value] w fun e w' => e = .returned (.bool true) ∧ Below w.heap.size w w' := by
  have hv : rngB value = true := by rw [rngB_iff]; exact ⟨h1, h2⟩
  have hq1 : decide (value < -1000000000) = false := decide_eq_false (by omega)
  have hq2 : decide ((1000000000 : Int) < value) = false := decide_eq_false (by omega)
  obtain ⟨f, hf, hx⟩ := u64_mod seed 100000 (by omega) (by omega)
  obtain ⟨d, hd, hy⟩ := u64_mod seed 500 (by omega) (by omega)
  have hx' : wrap64 ((IntKind.u64.wrap seed).tmod 100000) = (f : Int) := hx
  have hy' : wrap64 ((IntKind.u64.wrap seed).tmod 500) = (d : Int) := hy
  clear hx hy
  have HNew := Lib.hid (fun w => cNew w)
  have HDec : Hid (∀ i : Nat, i < 500 → ∀ w, Calls Tryz.prog 24 #[.int .i64 ((f : Int) + (i : Int))] w fun e w' => e = .returned (.string ⟨(digL (f + i)).toArray⟩) ∧ Below w.heap.size w w') := Lib.hid (fun i hi w => by
    have := nDec (f + i) (by omega) w
    rwa [show ((f + i : Nat) : Int) = (f : Int) + (i : Int) by omega] at this)
  have HV := Lib.hid hv
  clear hv
  have HS := Lib.hid (fun w hN hP => lSane w hN hP)
  go_enter Tryz.func6, Tryz.ntmps6
  go_wp2_with (go_at_call 8; refine (HNew.out _).mono ?_; rintro e w1 ⟨rfl, hk1, hb1⟩)
  obtain ⟨g, hg⟩ : ∃ g, g = w.heap.size + 1 := ⟨_, rfl⟩
  obtain ⟨bm, hbm⟩ : ∃ bm, bm = w.heap.size := ⟨_, rfl⟩
  rw [← hg, ← hbm] at hk1
  rw [← hg, hx']
  clear hx'
  have HB : Hid (w.heap.size ≤ bm) := Lib.hid (by omega)
  clear hg hbm
  go_loopw [7] (fun v7 wr => RFl f g bm w v7 wr) (fun v7 _ => 500 - (intOf v7).toNat)
  case atStart => exact ⟨0, [], by omega, rfl, hk1, fill_0 f, hb1⟩
  case round =>
    clear hk1 hb1
    obtain ⟨i, L, hi, rfl, hk, hF, hb⟩ := hrel
    by_cases hi5 : i < 500
    · have HD := Lib.hid (HDec.out i hi5)
      have hsz : (⟨(digL (f + i)).toArray⟩ : ByteArray).size ≤ 10 := by rw [mk_size]; exact digL_9 (by omega)
      have ka := fun (w : World) => run_string_add_sum (P := Tryz.prog) w ⟨#[114]⟩ ⟨(digL (f + i)).toArray⟩ (by show 1 + (⟨(digL (f + i)).toArray⟩ : ByteArray).size ≤ _; omega)
      have HSet : Hid (∀ w, BkAt w g bm L → Calls Tryz.prog 17 #[.pointer (some ⟨g, 0, none⟩), .string (⟨#[114]⟩ ++ ⟨(digL (f + i)).toArray⟩), .int .i64 value] w fun e w' => e = .returned (.int .i64 0) ∧ (∃ L', BkAt w' g bm L' ∧ Fill f (i + 1) L') ∧ Turn (· = bm) w w') := Lib.hid (fun w hk => fSet value HV.out w hk hF hi5 (by omega))
      have HK := Lib.hid hk
      clear hk hF
      generalize (⟨(digL (f + i)).toArray⟩ : ByteArray) = S at HD ka HSet hsz
      go_wp2_with (first
        | (go_at_call 24; refine (HD.out _).mono ?_; rintro e w2 ⟨rfl, hb2⟩; have hk2 := Lib.hid (HK.out.below hb2))
        | (go_at_call 17; refine (HSet.out _ hk2.out).mono ?_; rintro e w3 ⟨rfl, ⟨L', hk3, hF3⟩, hT3⟩))
      go_roundw
      case rel => exact ⟨i + 1, L', by omega, by go_num, hk3, hF3, Turn.below (ntrans hb hb2) hT3 (by have := hb.size; have := hb2.size; omega) (fun j hj => by have := HB.out; omega)⟩
      case measure => simp [intOf]; omega
    · obtain rfl : i = 500 := by omega
      have HD := Lib.hid (HDec.out d hd)
      have hsz : (⟨(digL (f + d)).toArray⟩ : ByteArray).size ≤ 10 := by rw [mk_size]; exact digL_9 (by omega)
      have ka := fun (w : World) => run_string_add_sum (P := Tryz.prog) w ⟨#[114]⟩ ⟨(digL (f + d)).toArray⟩ (by show 1 + (⟨(digL (f + d)).toArray⟩ : ByteArray).size ≤ _; omega)
      have HOld : Hid (∀ w, BkAt w g bm L → Calls Tryz.prog 17 #[.pointer (some ⟨g, 0, none⟩), .string (⟨#[114]⟩ ++ ⟨(digL (f + d)).toArray⟩), .int .i64 1] w fun e w' => e = .returned (.int .i64 0) ∧ (∃ L', BkAt w' g bm L' ∧ L'.length = 500 ∧ hasB L' more = false) ∧ Turn (· = bm) w w') := Lib.hid (fun w hk => fOld w hk hF hd (by omega))
      have H1 : Hid (∀ w, BkAt w g bm L → Calls Tryz.prog 17 #[.pointer (some ⟨g, 0, none⟩), .string ⟨#[109, 111, 114, 101]⟩, .int .i64 value] w fun e w' => e = .returned (.int .i64 9) ∧ BkAt w' g bm L ∧ Turn (· = bm) w w') := Lib.hid (fun w hk => fMore value HV.out w hk hF)
      have H2 : Hid (∀ w, BkAt w g bm L → Calls Tryz.prog 18 #[.pointer (some ⟨g, 0, none⟩), .string ⟨#[109, 111, 114, 101]⟩, .int .i64 1] w fun e w' => e = .returned (.int .i64 9) ∧ BkAt w' g bm L ∧ Turn (· = bm) w w') := Lib.hid (fun w hk => fStep w hk hF)
      have H3 : Hid (∀ w, BkAt w g bm L → Calls Tryz.prog 19 #[.pointer (some ⟨g, 0, none⟩), .string ⟨#[109, 111, 114, 101]⟩, .string ⟨#[105]⟩] w fun e w' => e = .returned (.int .i64 9) ∧ BkAt w' g bm L ∧ Turn (· = bm) w w') := Lib.hid (fun w hk => fFormat w hk hF)
      have H5 : Hid (∀ (L : List Ent) w, BkAt w g bm L → hasB L more = false → Calls Tryz.prog 22 #[.pointer (some ⟨g, 0, none⟩), .string ⟨#[109, 111, 114, 101]⟩] w fun e w' => e = .returned (.bool false) ∧ BkAt w' g bm L ∧ Below w.heap.size w w') := Lib.hid (fun L w hk hm => fHas w hk hm)
      have H6 := Lib.hid (fun (L : List Ent) w (hk : BkAt w g bm L) hl => fNames w hk hl)
      have HK := Lib.hid hk
      have HBl := Lib.hid hb
      clear hk hF hb
      have TB : Hid (∀ a b : World, Below w.heap.size w a → Turn (· = bm) a b → Below w.heap.size w b) := Lib.hid (fun a b ha hT => Turn.below ha hT ha.size (fun j hj => by have := HB.out; omega))
      generalize (⟨(digL (f + d)).toArray⟩ : ByteArray) = S at HD ka HOld hsz
      go_wp2_with (first
        | (go_at_call 24; refine (HD.out _).mono ?_; rintro e w2 ⟨rfl, hb2⟩; have hk2 := Lib.hid (HK.out.below hb2); have hB2 := Lib.hid (ntrans HBl.out hb2); clear hb2)
        | (go_at_call 17; with_reducible refine (H1.out _ hk2.out).mono ?_; rintro e w3 ⟨rfl, hk, hT⟩; have hk3 := Lib.hid hk; have hB3 := Lib.hid (TB.out _ _ hB2.out hT); clear hk hT)
        | (go_at_call 18; with_reducible refine (H2.out _ hk3.out).mono ?_; rintro e w4 ⟨rfl, hk, hT⟩; have hk4 := Lib.hid hk; have hB4 := Lib.hid (TB.out _ _ hB3.out hT); clear hk hT)
        | (go_at_call 19; with_reducible refine (H3.out _ hk4.out).mono ?_; rintro e w5 ⟨rfl, hk, hT⟩; have hk5 := Lib.hid hk; have hB5 := Lib.hid (TB.out _ _ hB4.out hT); clear hk hT)
        | (go_at_call 17; with_reducible refine (HOld.out _ hk5.out).mono ?_; rintro e w6 ⟨rfl, ⟨L', hk, hl', hm'⟩, hT⟩; have hk6 := Lib.hid hk; have hl6 := Lib.hid hl'; have hm6 := Lib.hid hm'; have hB6 := Lib.hid (TB.out _ _ hB5.out hT); clear hk hT hl' hm')
        | (go_at_call 22; with_reducible refine (H5.out L' _ hk6.out hm6.out).mono ?_; rintro e w7 ⟨rfl, hk, hb⟩; have hk7 := Lib.hid hk; have hB7 := Lib.hid (ntrans hB6.out hb); clear hk hb)
        | (go_at_call 23; with_reducible refine (H6.out L' _ hk7.out hl6.out).mono ?_; rintro e w8 ⟨⟨a, c, rfl⟩, hb⟩; have hB8 := Lib.hid (ntrans hB7.out hb); clear hb)
        | (go_at_call 7; refine (HS.out _ (hN.below hB8.out) (hP.below hB8.out)).mono ?_; rintro e w9 ⟨rfl, hb⟩; have hB9 := Lib.hid (ntrans hB8.out hb); clear hb))
      go_ret
      exact ⟨rfl, hB9.out⟩
set_option maxRecDepth 100000 in
set_option maxHeartbeats 1000000 in
theorem lFullLo (seed value : Int) (w : World) (hN : NumAt w) (hP : PowAt w) (h1 : value < -1000000000) :
    Calls Tryz.prog 6 #[.int .i64 seed, .int .i64 value] w fun e w' => e = .returned (.bool true) ∧ Below w.heap.size w w' := by
  have hv : rngB 7 = true := by decide
  have hq1 : decide (value < -1000000000) = true := decide_eq_true h1
  obtain ⟨f, hf, hx⟩ := u64_mod seed 100000 (by omega) (by omega)
  obtain ⟨d, hd, hy⟩ := u64_mod seed 500 (by omega) (by omega)
  have hx' : wrap64 ((IntKind.u64.wrap seed).tmod 100000) = (f : Int) := hx
  have hy' : wrap64 ((IntKind.u64.wrap seed).tmod 500) = (d : Int) := hy
  clear hx hy
  have HNew := Lib.hid (fun w => cNew w)
  have HDec : Hid (∀ i : Nat, i < 500 → ∀ w, Calls Tryz.prog 24 #[.int .i64 ((f : Int) + (i : Int))] w fun e w' => e = .returned (.string ⟨(digL (f + i)).toArray⟩) ∧ Below w.heap.size w w') := Lib.hid (fun i hi w => by
    have := nDec (f + i) (by omega) w
    rwa [show ((f + i : Nat) : Int) = (f : Int) + (i : Int) by omega] at this)
  have HV := Lib.hid hv
  clear hv
  have HS := Lib.hid (fun w hN hP => lSane w hN hP)
  go_enter Tryz.func6, Tryz.ntmps6
  go_wp2_with (go_at_call 8; refine (HNew.out _).mono ?_; rintro e w1 ⟨rfl, hk1, hb1⟩)
  obtain ⟨g, hg⟩ : ∃ g, g = w.heap.size + 1 := ⟨_, rfl⟩
  obtain ⟨bm, hbm⟩ : ∃ bm, bm = w.heap.size := ⟨_, rfl⟩
  rw [← hg, ← hbm] at hk1
  rw [← hg, hx']
  clear hx'
  have HB : Hid (w.heap.size ≤ bm) := Lib.hid (by omega)
  clear hg hbm
  go_loopw [7] (fun v7 wr => RFl f g bm w v7 wr) (fun v7 _ => 500 - (intOf v7).toNat)
  case atStart => exact ⟨0, [], by omega, rfl, hk1, fill_0 f, hb1⟩
  case round =>
    clear hk1 hb1
    obtain ⟨i, L, hi, rfl, hk, hF, hb⟩ := hrel
    by_cases hi5 : i < 500
    · have HD := Lib.hid (HDec.out i hi5)
      have hsz : (⟨(digL (f + i)).toArray⟩ : ByteArray).size ≤ 10 := by rw [mk_size]; exact digL_9 (by omega)
      have ka := fun (w : World) => run_string_add_sum (P := Tryz.prog) w ⟨#[114]⟩ ⟨(digL (f + i)).toArray⟩ (by show 1 + (⟨(digL (f + i)).toArray⟩ : ByteArray).size ≤ _; omega)
      have HSet : Hid (∀ w, BkAt w g bm L → Calls Tryz.prog 17 #[.pointer (some ⟨g, 0, none⟩), .string (⟨#[114]⟩ ++ ⟨(digL (f + i)).toArray⟩), .int .i64 7] w fun e w' => e = .returned (.int .i64 0) ∧ (∃ L', BkAt w' g bm L' ∧ Fill f (i + 1) L') ∧ Turn (· = bm) w w') := Lib.hid (fun w hk => fSet 7 HV.out w hk hF hi5 (by omega))
      have HK := Lib.hid hk
      clear hk hF
      generalize (⟨(digL (f + i)).toArray⟩ : ByteArray) = S at HD ka HSet hsz
      go_wp2_with (first
        | (go_at_call 24; refine (HD.out _).mono ?_; rintro e w2 ⟨rfl, hb2⟩; have hk2 := Lib.hid (HK.out.below hb2))
        | (go_at_call 17; refine (HSet.out _ hk2.out).mono ?_; rintro e w3 ⟨rfl, ⟨L', hk3, hF3⟩, hT3⟩))
      go_roundw
      case rel => exact ⟨i + 1, L', by omega, by go_num, hk3, hF3, Turn.below (ntrans hb hb2) hT3 (by have := hb.size; have := hb2.size; omega) (fun j hj => by have := HB.out; omega)⟩
      case measure => simp [intOf]; omega
    · obtain rfl : i = 500 := by omega
      have HD := Lib.hid (HDec.out d hd)
      have hsz : (⟨(digL (f + d)).toArray⟩ : ByteArray).size ≤ 10 := by rw [mk_size]; exact digL_9 (by omega)
      have ka := fun (w : World) => run_string_add_sum (P := Tryz.prog) w ⟨#[114]⟩ ⟨(digL (f + d)).toArray⟩ (by show 1 + (⟨(digL (f + d)).toArray⟩ : ByteArray).size ≤ _; omega)
      have HOld : Hid (∀ w, BkAt w g bm L → Calls Tryz.prog 17 #[.pointer (some ⟨g, 0, none⟩), .string (⟨#[114]⟩ ++ ⟨(digL (f + d)).toArray⟩), .int .i64 1] w fun e w' => e = .returned (.int .i64 0) ∧ (∃ L', BkAt w' g bm L' ∧ L'.length = 500 ∧ hasB L' more = false) ∧ Turn (· = bm) w w') := Lib.hid (fun w hk => fOld w hk hF hd (by omega))
      have H1 : Hid (∀ w, BkAt w g bm L → Calls Tryz.prog 17 #[.pointer (some ⟨g, 0, none⟩), .string ⟨#[109, 111, 114, 101]⟩, .int .i64 7] w fun e w' => e = .returned (.int .i64 9) ∧ BkAt w' g bm L ∧ Turn (· = bm) w w') := Lib.hid (fun w hk => fMore 7 HV.out w hk hF)
      have H2 : Hid (∀ w, BkAt w g bm L → Calls Tryz.prog 18 #[.pointer (some ⟨g, 0, none⟩), .string ⟨#[109, 111, 114, 101]⟩, .int .i64 1] w fun e w' => e = .returned (.int .i64 9) ∧ BkAt w' g bm L ∧ Turn (· = bm) w w') := Lib.hid (fun w hk => fStep w hk hF)
      have H3 : Hid (∀ w, BkAt w g bm L → Calls Tryz.prog 19 #[.pointer (some ⟨g, 0, none⟩), .string ⟨#[109, 111, 114, 101]⟩, .string ⟨#[105]⟩] w fun e w' => e = .returned (.int .i64 9) ∧ BkAt w' g bm L ∧ Turn (· = bm) w w') := Lib.hid (fun w hk => fFormat w hk hF)
      have H5 : Hid (∀ (L : List Ent) w, BkAt w g bm L → hasB L more = false → Calls Tryz.prog 22 #[.pointer (some ⟨g, 0, none⟩), .string ⟨#[109, 111, 114, 101]⟩] w fun e w' => e = .returned (.bool false) ∧ BkAt w' g bm L ∧ Below w.heap.size w w') := Lib.hid (fun L w hk hm => fHas w hk hm)
      have H6 := Lib.hid (fun (L : List Ent) w (hk : BkAt w g bm L) hl => fNames w hk hl)
      have HK := Lib.hid hk
      have HBl := Lib.hid hb
      clear hk hF hb
      have TB : Hid (∀ a b : World, Below w.heap.size w a → Turn (· = bm) a b → Below w.heap.size w b) := Lib.hid (fun a b ha hT => Turn.below ha hT ha.size (fun j hj => by have := HB.out; omega))
      generalize (⟨(digL (f + d)).toArray⟩ : ByteArray) = S at HD ka HOld hsz
      go_wp2_with (first
        | (go_at_call 24; refine (HD.out _).mono ?_; rintro e w2 ⟨rfl, hb2⟩; have hk2 := Lib.hid (HK.out.below hb2); have hB2 := Lib.hid (ntrans HBl.out hb2); clear hb2)
        | (go_at_call 17; with_reducible refine (H1.out _ hk2.out).mono ?_; rintro e w3 ⟨rfl, hk, hT⟩; have hk3 := Lib.hid hk; have hB3 := Lib.hid (TB.out _ _ hB2.out hT); clear hk hT)
        | (go_at_call 18; with_reducible refine (H2.out _ hk3.out).mono ?_; rintro e w4 ⟨rfl, hk, hT⟩; have hk4 := Lib.hid hk; have hB4 := Lib.hid (TB.out _ _ hB3.out hT); clear hk hT)
        | (go_at_call 19; with_reducible refine (H3.out _ hk4.out).mono ?_; rintro e w5 ⟨rfl, hk, hT⟩; have hk5 := Lib.hid hk; have hB5 := Lib.hid (TB.out _ _ hB4.out hT); clear hk hT)
        | (go_at_call 17; with_reducible refine (HOld.out _ hk5.out).mono ?_; rintro e w6 ⟨rfl, ⟨L', hk, hl', hm'⟩, hT⟩; have hk6 := Lib.hid hk; have hl6 := Lib.hid hl'; have hm6 := Lib.hid hm'; have hB6 := Lib.hid (TB.out _ _ hB5.out hT); clear hk hT hl' hm')
        | (go_at_call 22; with_reducible refine (H5.out L' _ hk6.out hm6.out).mono ?_; rintro e w7 ⟨rfl, hk, hb⟩; have hk7 := Lib.hid hk; have hB7 := Lib.hid (ntrans hB6.out hb); clear hk hb)
        | (go_at_call 23; with_reducible refine (H6.out L' _ hk7.out hl6.out).mono ?_; rintro e w8 ⟨⟨a, c, rfl⟩, hb⟩; have hB8 := Lib.hid (ntrans hB7.out hb); clear hb)
        | (go_at_call 7; refine (HS.out _ (hN.below hB8.out) (hP.below hB8.out)).mono ?_; rintro e w9 ⟨rfl, hb⟩; have hB9 := Lib.hid (ntrans hB8.out hb); clear hb))
      go_ret
      exact ⟨rfl, hB9.out⟩
set_option maxRecDepth 100000 in
set_option maxHeartbeats 1000000 in
theorem lFullHi (seed value : Int) (w : World) (hN : NumAt w) (hP : PowAt w) (h1 : ¬ value < -1000000000) (h2 : 1000000000 < value) :
    Calls Tryz.prog 6 #[.int .i64 seed, .int .i64 value] w fun e w' => e = .returned (.bool true) ∧ Below w.heap.size w w' := by
  have hv : rngB 7 = true := by decide
  have hq1 : decide (value < -1000000000) = false := decide_eq_false h1
  have hq2 : decide ((1000000000 : Int) < value) = true := decide_eq_true h2
  obtain ⟨f, hf, hx⟩ := u64_mod seed 100000 (by omega) (by omega)
  obtain ⟨d, hd, hy⟩ := u64_mod seed 500 (by omega) (by omega)
  have hx' : wrap64 ((IntKind.u64.wrap seed).tmod 100000) = (f : Int) := hx
  have hy' : wrap64 ((IntKind.u64.wrap seed).tmod 500) = (d : Int) := hy
  clear hx hy
  have HNew := Lib.hid (fun w => cNew w)
  have HDec : Hid (∀ i : Nat, i < 500 → ∀ w, Calls Tryz.prog 24 #[.int .i64 ((f : Int) + (i : Int))] w fun e w' => e = .returned (.string ⟨(digL (f + i)).toArray⟩) ∧ Below w.heap.size w w') := Lib.hid (fun i hi w => by
    have := nDec (f + i) (by omega) w
    rwa [show ((f + i : Nat) : Int) = (f : Int) + (i : Int) by omega] at this)
  have HV := Lib.hid hv
  clear hv
  have HS := Lib.hid (fun w hN hP => lSane w hN hP)
  go_enter Tryz.func6, Tryz.ntmps6
  go_wp2_with (go_at_call 8; refine (HNew.out _).mono ?_; rintro e w1 ⟨rfl, hk1, hb1⟩)
  obtain ⟨g, hg⟩ : ∃ g, g = w.heap.size + 1 := ⟨_, rfl⟩
  obtain ⟨bm, hbm⟩ : ∃ bm, bm = w.heap.size := ⟨_, rfl⟩
  rw [← hg, ← hbm] at hk1
  rw [← hg, hx']
  clear hx'
  have HB : Hid (w.heap.size ≤ bm) := Lib.hid (by omega)
  clear hg hbm
  go_loopw [7] (fun v7 wr => RFl f g bm w v7 wr) (fun v7 _ => 500 - (intOf v7).toNat)
  case atStart => exact ⟨0, [], by omega, rfl, hk1, fill_0 f, hb1⟩
  case round =>
    clear hk1 hb1
    obtain ⟨i, L, hi, rfl, hk, hF, hb⟩ := hrel
    by_cases hi5 : i < 500
    · have HD := Lib.hid (HDec.out i hi5)
      have hsz : (⟨(digL (f + i)).toArray⟩ : ByteArray).size ≤ 10 := by rw [mk_size]; exact digL_9 (by omega)
      have ka := fun (w : World) => run_string_add_sum (P := Tryz.prog) w ⟨#[114]⟩ ⟨(digL (f + i)).toArray⟩ (by show 1 + (⟨(digL (f + i)).toArray⟩ : ByteArray).size ≤ _; omega)
      have HSet : Hid (∀ w, BkAt w g bm L → Calls Tryz.prog 17 #[.pointer (some ⟨g, 0, none⟩), .string (⟨#[114]⟩ ++ ⟨(digL (f + i)).toArray⟩), .int .i64 7] w fun e w' => e = .returned (.int .i64 0) ∧ (∃ L', BkAt w' g bm L' ∧ Fill f (i + 1) L') ∧ Turn (· = bm) w w') := Lib.hid (fun w hk => fSet 7 HV.out w hk hF hi5 (by omega))
      have HK := Lib.hid hk
      clear hk hF
      generalize (⟨(digL (f + i)).toArray⟩ : ByteArray) = S at HD ka HSet hsz
      go_wp2_with (first
        | (go_at_call 24; refine (HD.out _).mono ?_; rintro e w2 ⟨rfl, hb2⟩; have hk2 := Lib.hid (HK.out.below hb2))
        | (go_at_call 17; refine (HSet.out _ hk2.out).mono ?_; rintro e w3 ⟨rfl, ⟨L', hk3, hF3⟩, hT3⟩))
      go_roundw
      case rel => exact ⟨i + 1, L', by omega, by go_num, hk3, hF3, Turn.below (ntrans hb hb2) hT3 (by have := hb.size; have := hb2.size; omega) (fun j hj => by have := HB.out; omega)⟩
      case measure => simp [intOf]; omega
    · obtain rfl : i = 500 := by omega
      have HD := Lib.hid (HDec.out d hd)
      have hsz : (⟨(digL (f + d)).toArray⟩ : ByteArray).size ≤ 10 := by rw [mk_size]; exact digL_9 (by omega)
      have ka := fun (w : World) => run_string_add_sum (P := Tryz.prog) w ⟨#[114]⟩ ⟨(digL (f + d)).toArray⟩ (by show 1 + (⟨(digL (f + d)).toArray⟩ : ByteArray).size ≤ _; omega)
      have HOld : Hid (∀ w, BkAt w g bm L → Calls Tryz.prog 17 #[.pointer (some ⟨g, 0, none⟩), .string (⟨#[114]⟩ ++ ⟨(digL (f + d)).toArray⟩), .int .i64 1] w fun e w' => e = .returned (.int .i64 0) ∧ (∃ L', BkAt w' g bm L' ∧ L'.length = 500 ∧ hasB L' more = false) ∧ Turn (· = bm) w w') := Lib.hid (fun w hk => fOld w hk hF hd (by omega))
      have H1 : Hid (∀ w, BkAt w g bm L → Calls Tryz.prog 17 #[.pointer (some ⟨g, 0, none⟩), .string ⟨#[109, 111, 114, 101]⟩, .int .i64 7] w fun e w' => e = .returned (.int .i64 9) ∧ BkAt w' g bm L ∧ Turn (· = bm) w w') := Lib.hid (fun w hk => fMore 7 HV.out w hk hF)
      have H2 : Hid (∀ w, BkAt w g bm L → Calls Tryz.prog 18 #[.pointer (some ⟨g, 0, none⟩), .string ⟨#[109, 111, 114, 101]⟩, .int .i64 1] w fun e w' => e = .returned (.int .i64 9) ∧ BkAt w' g bm L ∧ Turn (· = bm) w w') := Lib.hid (fun w hk => fStep w hk hF)
      have H3 : Hid (∀ w, BkAt w g bm L → Calls Tryz.prog 19 #[.pointer (some ⟨g, 0, none⟩), .string ⟨#[109, 111, 114, 101]⟩, .string ⟨#[105]⟩] w fun e w' => e = .returned (.int .i64 9) ∧ BkAt w' g bm L ∧ Turn (· = bm) w w') := Lib.hid (fun w hk => fFormat w hk hF)
      have H5 : Hid (∀ (L : List Ent) w, BkAt w g bm L → hasB L more = false → Calls Tryz.prog 22 #[.pointer (some ⟨g, 0, none⟩), .string ⟨#[109, 111, 114, 101]⟩] w fun e w' => e = .returned (.bool false) ∧ BkAt w' g bm L ∧ Below w.heap.size w w') := Lib.hid (fun L w hk hm => fHas w hk hm)
      have H6 := Lib.hid (fun (L : List Ent) w (hk : BkAt w g bm L) hl => fNames w hk hl)
      have HK := Lib.hid hk
      have HBl := Lib.hid hb
      clear hk hF hb
      have TB : Hid (∀ a b : World, Below w.heap.size w a → Turn (· = bm) a b → Below w.heap.size w b) := Lib.hid (fun a b ha hT => Turn.below ha hT ha.size (fun j hj => by have := HB.out; omega))
      generalize (⟨(digL (f + d)).toArray⟩ : ByteArray) = S at HD ka HOld hsz
      go_wp2_with (first
        | (go_at_call 24; refine (HD.out _).mono ?_; rintro e w2 ⟨rfl, hb2⟩; have hk2 := Lib.hid (HK.out.below hb2); have hB2 := Lib.hid (ntrans HBl.out hb2); clear hb2)
        | (go_at_call 17; with_reducible refine (H1.out _ hk2.out).mono ?_; rintro e w3 ⟨rfl, hk, hT⟩; have hk3 := Lib.hid hk; have hB3 := Lib.hid (TB.out _ _ hB2.out hT); clear hk hT)
        | (go_at_call 18; with_reducible refine (H2.out _ hk3.out).mono ?_; rintro e w4 ⟨rfl, hk, hT⟩; have hk4 := Lib.hid hk; have hB4 := Lib.hid (TB.out _ _ hB3.out hT); clear hk hT)
        | (go_at_call 19; with_reducible refine (H3.out _ hk4.out).mono ?_; rintro e w5 ⟨rfl, hk, hT⟩; have hk5 := Lib.hid hk; have hB5 := Lib.hid (TB.out _ _ hB4.out hT); clear hk hT)
        | (go_at_call 17; with_reducible refine (HOld.out _ hk5.out).mono ?_; rintro e w6 ⟨rfl, ⟨L', hk, hl', hm'⟩, hT⟩; have hk6 := Lib.hid hk; have hl6 := Lib.hid hl'; have hm6 := Lib.hid hm'; have hB6 := Lib.hid (TB.out _ _ hB5.out hT); clear hk hT hl' hm')
        | (go_at_call 22; with_reducible refine (H5.out L' _ hk6.out hm6.out).mono ?_; rintro e w7 ⟨rfl, hk, hb⟩; have hk7 := Lib.hid hk; have hB7 := Lib.hid (ntrans hB6.out hb); clear hk hb)
        | (go_at_call 23; with_reducible refine (H6.out L' _ hk7.out hl6.out).mono ?_; rintro e w8 ⟨⟨a, c, rfl⟩, hb⟩; have hB8 := Lib.hid (ntrans hB7.out hb); clear hb)
        | (go_at_call 7; refine (HS.out _ (hN.below hB8.out) (hP.below hB8.out)).mono ?_; rintro e w9 ⟨rfl, hb⟩; have hB9 := Lib.hid (ntrans hB8.out hb); clear hb))
      go_ret
      exact ⟨rfl, hB9.out⟩
/-- RegisterFull. -/
theorem lFull (seed value : Int) (w : World) (hN : NumAt w) (hP : PowAt w) :
    Calls Tryz.prog 6 #[.int .i64 seed, .int .i64 value] w fun e w' => e = .returned (.bool true) ∧ Below w.heap.size w w' := by
  by_cases h1 : value < -1000000000
  · exact lFullLo seed value w hN hP h1
  · by_cases h2 : 1000000000 < value
    · exact lFullHi seed value w hN hP h1 h2
    · exact lFullIn seed value w hN hP (by omega) (by omega)
end Go.Proofs.YtaamjccffkdlhaaGreatDoor
