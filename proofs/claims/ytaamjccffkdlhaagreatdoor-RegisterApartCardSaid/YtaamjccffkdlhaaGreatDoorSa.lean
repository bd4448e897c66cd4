/- What the rows' list gives; the rows' last step; a witness's world. -/
import Derived.Test.YtaamjccffkdlhaaGreatDoorRg
import Derived.Test.YtaamjccffkdlhaaGreatDoorRi
import Derived.Test.YtaamjccffkdlhaaGreatDoorRows
import Derived.ProofKit
import Derived.OpenShut
import Derived.ShutString
import Derived.ChangeSame
import Derived.Carry
import Derived.Deep.DeepHandedRow
import Derived.Deep.Fields
import Derived.Lib.LaidTab
import Derived.Lib.SmallJoins
import Derived.Lib.LaidIn
import Derived.Lib.LaidU8
import Derived.Great.CaseRows
import Derived.PinnedBridge
import Derived.Stop.LaidErr
namespace Go.Proofs.YtaamjccffkdlhaaGreatDoor
open Go.ChangeShapes Go.WideShapes Go.ChangeAt Go.RowKit Go.Joins Go.Deep
open Go.ChangeMaps (open_string shut_string)
open Go.Shelf Go.Lib

theorem own : ownKnob Tryz.prog.godebug = none := by kernel_rfl
theorem gNum : Tryz.prog.globalNamed "frisket/register.numerals" = some 0 := by kernel_rfl
theorem gNumType : (Tryz.prog.globals[0]?).map (·.type) = some 96 := by kernel_rfl
theorem cellsNa : Tryz.prog.cellsOf 96 = 26 := by kernel_rfl
theorem cellsNe : Tryz.prog.cellsOf 95 = 2 := by kernel_rfl
theorem cells3 : Tryz.prog.cellsOf 3 = 1 := by kernel_rfl
theorem cells9 : Tryz.prog.cellsOf 9 = 1 := by kernel_rfl
def numZ : List (Int × List UInt8) := rmTab.map fun x => ((x.1 : Int), x.2)
def numD (z : Int × List UInt8) : DataW Unit := .agg [.lit (.int .i64 z.1), .lit (.string z.2)]
theorem laid_num : (Rows.laid_frisket_register_numerals : DataW Unit) = .agg (numZ.map numD) := by kernel_rfl
/-- An array of structs of a number and a string that reads as a list holds them. -/
theorem cells_of_num {w : World} {fuel : Nat} {cs : List Value} {zs : List (Int × List UInt8)} {p : List MemPlace}
    (h : DataW.trod (fun _ => ()) Tryz.prog w 0 (fun _ => true) false fuel 96 cs = some (.agg (zs.map numD), p)) : cs = zs.flatMap fun z => [Value.int .i64 z.1, Value.string ⟨z.2.toArray⟩] := by
  obtain ⟨xs, m, _, hx, hlen, hxl, hat⟩ := DataW.trod_array Tryz.underlying96 h
  injection hx with hx _
  injection hx with hx
  rw [cellsNa] at hlen
  have hzl : zs.length = 13 := by
    have := congrArg List.length hx
    simp at this
    omega
  have hfl : ∀ (l : List (Int × List UInt8)) (i : Nat) (z : Int × List UInt8), l[i]? = some z → (l.flatMap fun z => [Value.int .i64 z.1, Value.string ⟨z.2.toArray⟩])[i * 2]? = some (Value.int .i64 z.1) ∧ (l.flatMap fun z => [Value.int .i64 z.1, Value.string ⟨z.2.toArray⟩])[i * 2 + 1]? = some (Value.string ⟨z.2.toArray⟩) := by
    intro l
    induction l with
    | nil => intro i z h; simp at h
    | cons a l ih =>
      intro i z h
      cases i with
      | zero => simp at h; subst h; exact ⟨rfl, rfl⟩
      | succ i =>
        have := ih i z (by simpa using h)
        rw [List.flatMap_cons, show (i + 1) * 2 = i * 2 + 2 by omega]
        exact this
  apply List.ext_getElem?
  intro j
  by_cases hj : j < 26
  · have hi : j / 2 < 13 := by omega
    have hf := hat (j / 2) hi
    rw [List.getElem?_eq_getElem (by omega), cellsNe] at hf
    have hz : zs[j / 2]? = some (zs[j / 2]'(by omega)) := List.getElem?_eq_getElem (by omega)
    have hfz := hfl zs (j / 2) _ hz
    have hd : (xs[j / 2]'(by omega)).1 = numD (zs[j / 2]'(by omega)) := by
      have h2 : (xs.map (·.1))[j / 2]? = (zs.map numD)[j / 2]? := by rw [hx]
      rw [List.getElem?_map, List.getElem?_map, List.getElem?_eq_getElem (by omega), hz] at h2
      simpa using h2
    obtain ⟨ys, n, _, hy, _, hyl, hg⟩ := DataW.trod_struct Tryz.underlying95 hf
    have hy1 : numD (zs[j / 2]'(by omega)) = .agg (ys.map (·.1)) := by rw [← hd, hy]
    have hyl2 : ys.length = 2 := by rw [hyl]; rfl
    have g0 := hg 0 _ rfl
    have g1 := hg 1 _ rfl
    rw [List.getElem?_eq_getElem (show 0 < ys.length by omega)] at g0
    rw [List.getElem?_eq_getElem (show 1 < ys.length by omega)] at g1
    change DataW.trod _ _ _ _ _ _ _ 3 ((((cs.drop (j / 2 * 2)).take 2).drop 0).take (Tryz.prog.cellsOf 3)) = _ at g0
    change DataW.trod _ _ _ _ _ _ _ 9 ((((cs.drop (j / 2 * 2)).take 2).drop 1).take (Tryz.prog.cellsOf 9)) = _ at g1
    rw [cells3] at g0
    rw [cells9] at g1
    obtain ⟨n0, e0, y0, _⟩ := DataW.trod_int Tryz.underlying3 g0
    obtain ⟨s1, e1, y1, _⟩ := DataW.trod_string Tryz.underlying9 g1
    have hys : ys.map (·.1) = [.lit (.int .i64 n0), .lit (.string s1.data.toList)] := by
      apply List.ext_getElem?
      intro k
      match k with
      | 0 => rw [List.getElem?_map, List.getElem?_eq_getElem (show 0 < ys.length by omega), y0]; rfl
      | 1 => rw [List.getElem?_map, List.getElem?_eq_getElem (show 1 < ys.length by omega), y1]; rfl
      | k + 2 => rw [List.getElem?_eq_none (by simp; omega), List.getElem?_eq_none (by simp)]
    rw [hys] at hy1
    unfold numD at hy1
    injection hy1 with hy1
    injection hy1 with hn0 hy1
    injection hy1 with hs1 _
    injection hn0 with hn0
    injection hn0 with _ hn0
    injection hs1 with hs1
    injection hs1 with hs1
    have t0 : cs[j / 2 * 2]? = some (.int .i64 n0) := by
      have := congrArg (·[0]?) e0
      simpa [List.getElem?_take, List.getElem?_drop] using this
    have t1 : cs[j / 2 * 2 + 1]? = some (.string s1) := by
      have := congrArg (·[0]?) e1
      simpa [List.getElem?_take, List.getElem?_drop] using this
    rcases Nat.mod_two_eq_zero_or_one j with hm | hm
    · have e : j = j / 2 * 2 := by omega
      rw [e, t0, hfz.1, hn0]
    · have e : j = j / 2 * 2 + 1 := by omega
      rw [e, t1, hfz.2, hs1]
  · have hle : (zs.flatMap fun z => [Value.int .i64 z.1, Value.string ⟨z.2.toArray⟩]).length = zs.length * 2 := by
      have : ∀ l : List (Int × List UInt8), (l.flatMap fun z => [Value.int .i64 z.1, Value.string ⟨z.2.toArray⟩]).length = l.length * 2 := by
        intro l
        induction l with
        | nil => rfl
        | cons a l ih => rw [List.flatMap_cons, List.length_append, ih, List.length_cons]; simp; omega
      exact this zs
    rw [List.getElem?_eq_none (by omega), List.getElem?_eq_none (by omega)]
theorem numAt_of {W : World} (h : VarReads Tryz.prog W "frisket/register.numerals" (.agg (numZ.map numD))) : NumAt W := by
  obtain ⟨g', t', cs, fuel, p, hg', ht', hvar, hd⟩ := h
  obtain rfl := Option.some.inj (gNum.symm.trans hg')
  obtain rfl := Option.some.inj (gNumType.symm.trans ht')
  have hcs := cells_of_num hd
  have hcs' : cs = numA := by
    cases cs
    simp only at hcs
    rw [hcs]; rfl
  subst hcs'
  unfold World.var? at hvar
  rw [gNum] at hvar
  simp only [Option.bind_some] at hvar
  split at hvar
  · rename_i c t fr hh
    injection hvar with hvar
    subst hvar
    exact ⟨t, fr, hh⟩
  · cases hvar
theorem pow_tab : (Rows.laid_internal_strconv_uint64pow10 : DataW Unit) = Lib.tabData .u64 Lib.pow10Tab := by kernel_rfl
theorem gPowType : (Tryz.prog.globals[5]?).map (·.type) = some 171 := by kernel_rfl
theorem powAt_of {W : World} (h : VarReads Tryz.prog W "internal/strconv.uint64pow10" (Lib.tabData .u64 Lib.pow10Tab)) : PowAt W := by
  obtain ⟨g', t', cs, fuel, p, hg', ht', hvar, hd⟩ := h
  obtain rfl := Option.some.inj (gPow.symm.trans hg')
  obtain rfl := Option.some.inj (gPowType.symm.trans ht')
  have hcs := Lib.cells_of_tab Tryz.underlying171 Tryz.underlying120 (by kernel_rfl) (by kernel_rfl) hd
  unfold PowAt Lib.TabIs
  rw [hvar]
  congr 1
  cases cs
  simp only at hcs
  rw [hcs]
/-- The rows' list. -/
noncomputable def smalls : List (String × DataW Unit) := [("math/bits.deBruijn32tab", Rows.laid_math_bits_deBruijn32tab), ("math/bits.deBruijn64tab", Rows.laid_math_bits_deBruijn64tab), ("internal/strconv.uint64pow10", Rows.laid_internal_strconv_uint64pow10), ("unicode/utf8.acceptRanges", Rows.laid_unicode_utf8_acceptRanges), ("frisket/register.numerals", Rows.laid_frisket_register_numerals)]
noncomputable def lst : List (String × DataW Unit) := smalls ++ [("unicode.CaseRanges", Rows.laid_unicode_CaseRanges)] ++ [("unicode/utf8.first", Rows.laid_unicode_utf8_first)]
theorem reads_of {W : World} (h : laidMet Tryz.prog lst W) {n : String} {d : DataW Unit} (hm : (n, d) ∈ lst) : VarReads Tryz.prog W n d := by
  obtain ⟨ps, hv, _⟩ := h
  exact LaidVars_reads hv n d hm
theorem num_of {W : World} (h : laidMet Tryz.prog lst W) : NumAt W := numAt_of (by
  rw [← laid_num]
  exact reads_of h (by simp [lst, smalls]))
theorem pow_of {W : World} (h : laidMet Tryz.prog lst W) : PowAt W := powAt_of (by
  rw [← pow_tab]
  exact reads_of h (by simp [lst, smalls]))
/-- The cells of a datum of numbers and strings. -/
noncomputable def litCells : Nat → DataW Unit → List Value
  | 0, _ => []
  | _ + 1, .lit (.int k n) => [.int k n]
  | _ + 1, .lit (.string s) => [.string ⟨s.toArray⟩]
  | f + 1, .agg l => l.flatMap (litCells f)
  | _ + 1, _ => []
noncomputable def putStep (h : Array Obj) (x : String × DataW Unit) : Array Obj :=
  match Tryz.prog.globalNamed x.1 with
  | some g => h.modify g (fun o => match o with | .cells _ t frozen => .cells (litCells 9 x.2).toArray t frozen | o => o)
  | none => h
noncomputable def baseWorld (os : Os) : World := World.holding Tryz.prog os ⟨#[.cells Lib.caseCells5 169], #[], []⟩
noncomputable def caseBlk : Nat := (World.settled Tryz.prog default).heap.size
/-- A world for a row's witness: each listed variable holds what its text lays. -/
noncomputable def laidWorld (os : Os) : World :=
  { baseWorld os with heap := ((smalls ++ [("unicode/utf8.first", Lib.firstData)]).foldl putStep (baseWorld os).heap).modify 2 (fun o => match o with | .cells _ t frozen => .cells #[.slice (some ⟨caseBlk, 0, none⟩) 336 336] t frozen | o => o) }
theorem caseTypes : Go.Great.CTypes Tryz.prog 145 169 167 118 21 :=
  ⟨Tryz.underlying145, Tryz.underlying169, Tryz.underlying167, Tryz.underlying118, Tryz.underlying21, by kernel_rfl, by kernel_rfl, by kernel_rfl, by kernel_rfl⟩
theorem caseT_len : Lib.caseT.length = 336 := by decide +kernel
theorem laid_met (os : Os) (args : Array Value) : laidMet Tryz.prog lst ((laidWorld os).forCall (fun _ _ => 0) ⟨#[], args, []⟩).memory := by
  have h1 : LaidIn Tryz.prog ((laidWorld os).forCall (fun _ _ => 0) ⟨#[], args, []⟩).memory smalls [6, 7, 5, 4, 0] :=
    LaidIn.of_run _ 9 (by kernel_rfl) (by kernel_rfl) (by kernel_rfl) (by kernel_rfl)
  have h3 : LaidIn Tryz.prog ((laidWorld os).forCall (fun _ _ => 0) ⟨#[], args, []⟩).memory [("unicode/utf8.first", Lib.firstData)] [3] :=
    LaidIn.of_run _ 9 (by kernel_rfl) (by kernel_rfl) (by kernel_rfl) (by kernel_rfl)
  have h2 : LaidIn Tryz.prog ((laidWorld os).forCall (fun _ _ => 0) ⟨#[], args, []⟩).memory [("unicode.CaseRanges", Lib.caseData)] [2, caseBlk] :=
    Go.Great.laidIn_case caseTypes (tg := 145) (tb := 169) Lib.caseT (by kernel_rfl) (by kernel_rfl) (by rw [caseT_len]; unfold maxLen; omega) Lib.rowsWf (by rw [caseT_len]; kernel_rfl) (by kernel_rfl) (of_decide_eq_true (by kernel_rfl))
  have h := (h1.append h2 (by kernel_rfl)).append h3 (by kernel_rfl)
  have e : lst = smalls ++ [("unicode.CaseRanges", Lib.caseData)] ++ [("unicode/utf8.first", Lib.firstData)] := by
    unfold lst
    rw [show Rows.laid_unicode_CaseRanges = Lib.caseData from Pinned.caseRanges_eq, show Rows.laid_unicode_utf8_first = Lib.firstData from Pinned.utf8First_eq]
  rw [e]
  exact h.met

section
variable {H : Type} {enc : TypeId × Value → H} {P : Program}
theorem post_of_below {f : Func} {s : ChangeSpec} {apart fresh handsOn again : Bool} {W W' : World} {args : Array Value} {v : Value} {ds gs : List (DataW H)} {before pa pv : List MemPlace}
    (hW : DataW.Whole enc P f.params.toList s.vars apart W args.toList ds gs before)
    (hres : ∀ (b : Nat) (sp : Nat → Bool) (hd : Bool), DataW.TrodAll enc P W' b sp hd f.resultTypes.toList (v.resultList f.resultTypes.size) (s.fn H (ds ++ gs)).results [])
    (hargs : ∀ sp : Nat → Bool, (∀ p ∈ before, sp p.block = true) → DataW.TrodAll enc P W' 0 sp true f.params.toList args.toList (s.fn H (ds ++ gs)).args pa)
    (hvars : ∀ sp : Nat → Bool, (∀ p ∈ before, sp p.block = true) → DataW.TrodVars enc P W' sp s.vars (s.fn H (ds ++ gs)).vars pv)
    (hps : before = pa ++ pv) (hb : Below W.heap.size W W')
    (hok : ∀ (j : Nat) (t : TypeId) (r : Value), f.resultTypes[j]? = some t → (v.resultList f.resultTypes.size)[j]? = some r → Value.okWide P W' .any 0 t r) :
    s.post enc P f apart fresh handsOn again W args v W' := by
  have hlt : ∀ p ∈ before, p.block < W.heap.size := fun p hp => hW.lt p hp
  have hold : ∀ p ∈ before, (fun b => decide (b < W.heap.size)) p.block = true := fun p hp => by simpa using hlt p hp
  refine ⟨ds, gs, before, [], pa, pv, hW, hres _ _ _, hargs _ hold, hvars _ hold, World.keptBut_mono (fun p hp => ⟨hp, ?_⟩) (hb.frame (· ∈ before)), fun _ => ?_⟩
  · rw [hps, List.mem_append] at hp
    exact Or.inr hp
  · obtain ⟨_, _, _, _, _, hz, hn⟩ := hW
    refine ⟨hok, _, _, ([] ++ pa) ++ pv, ⟨[] ++ pa, pv, trodAll_append (hargs _ (fun _ _ => rfl)) (hres _ _ _), hvars _ (fun _ _ => rfl), rfl, ?_, ?_⟩, ?_⟩
    · intro b off hp
      have hin : MemPlace.cell b off ∈ before := by rw [hps]; simpa using hp
      rw [hb.frozen (hlt _ hin)]
      exact hz b off hin
    · intro ha
      have := hn ha
      rw [hps] at this
      simpa using this
    · intro p hp _
      rw [hps]
      simpa using hp
end

theorem wf_i64 {n : Int} (h : (Lit.int .i64 n).wf = true) : -9223372036854775808 ≤ n ∧ n ≤ 9223372036854775807 := by
  simp [Lit.wf, IntKind.min, IntKind.max, IntKind.bits, IntKind.signed] at h
  omega
def readB (P : Program) (ts : List TypeId) : Bool := ts.all fun t => P.readableRec t && decide (t < P.types.size)
theorem trodAll_stays {P : Program} (hlo : laidOutB P = true) {H : Type} {enc : TypeId × Value → H} {W W' : World} {sp : Nat → Bool} (hb : Below W.heap.size W W') : ∀ {ts : List TypeId} {vs : List Value} {ds : List (DataW H)} {ps : List MemPlace}, readB P ts = true →
    DataW.TrodAll enc P W 0 (fun _ => true) true ts vs ds ps → (∀ p ∈ ps, p.block < W.heap.size) → (∀ p ∈ ps, sp p.block = true) → DataW.TrodAll enc P W' 0 sp true ts vs ds ps := by
  intro ts
  induction ts with
  | nil =>
    intro vs ds ps _ h _ _
    obtain ⟨rfl, rfl, rfl⟩ := trodAll_nil h
    exact trodAll_mk0
  | cons t ts ih =>
    intro vs ds ps hr h hl hs
    obtain ⟨v, vs, d, ds, p, q, rfl, rfl, rfl, h0, h1⟩ := trodAll_cons h
    simp only [readB, List.all_cons, Bool.and_eq_true, decide_eq_true_eq] at hr
    exact trodAll_cons_mk (WideElems.Trod_stays hlo hr.1.1 hr.1.2 h0 (fun x hx => hb.same (hl x (List.mem_append.2 (.inl hx)))) (fun x hx => hs x (List.mem_append.2 (.inl hx))))
      (ih (by simpa [readB] using hr.2) h1 (fun x hx => hl x (List.mem_append.2 (.inr hx))) (fun x hx => hs x (List.mem_append.2 (.inr hx))))
/-- A row that says 'true, and the arguments read as before'. -/
theorem post_true {P : Program} (hlo : laidOutB P = true) {H : Type} {enc : TypeId × Value → H} {f : Func} {s : ChangeSpec} {apart fresh handsOn again : Bool} {W W' : World} {args : Array Value} {ds gs : List (DataW H)} {before : List MemPlace}
    (h4 : P.underlying 4 = some .bool) (hs : s.vars = []) (hf : f.resultTypes = #[4]) (hp : readB P f.params.toList = true) (hfn : s.fn H ds = { results := [.lit (.bool true)], args := ds })
    (hW : DataW.Whole enc P f.params.toList s.vars apart W args.toList ds gs before) (hb : Below W.heap.size W W') : s.post enc P f apart fresh handsOn again W args (.bool true) W' := by
  have hlt : ∀ p ∈ before, p.block < W.heap.size := fun p hp => hW.lt p hp
  have hW' := hW
  obtain ⟨p, q, hA, hV, rfl, _, _⟩ := hW'
  rw [hs] at hV
  obtain ⟨rfl, rfl⟩ := trodVars_none hV
  have hfn' : s.fn H (ds ++ []) = { results := [.lit (.bool true)], args := ds } := by rw [List.append_nil]; exact hfn
  refine post_of_below (pa := p) (pv := []) hW ?_ ?_ ?_ rfl hb ?_
  · intro b sp hd
    rw [hfn', hf]
    exact trodAll_cons_mk (shut_bool h4 _) trodAll_mk0
  · intro sp hsp
    rw [hfn']
    exact trodAll_stays hlo hb hp hA (fun x hx => hlt x (by simpa using hx)) (fun x hx => hsp x (by simpa using hx))
  · intro sp _
    rw [hfn', hs]
    rfl
  · exact ok_one hf rfl (okWide_bool_mk h4 _)
theorem laidOutP : laidOutB Tryz.prog = true := by kernel_rfl
/-- A struct whose fields are all whole numbers. -/
def intOfV : Value → Int
  | .int _ n => n
  | _ => 0
theorem open_struct_ints {P : Program} {H : Type} {enc : TypeId × Value → H} {w : World} {base : Nat} {sp : Nat → Bool} {held : Bool} {r : Reach} {b0 : Nat} {t : TypeId} {fs : Array Field} {v : Value} {d : DataW H} {p : List MemPlace}
    (hu3 : P.underlying 3 = some (.int .i64)) (hs : P.underlying t = some (.struct fs)) (hone : oneCellFields P fs = true) (hC : P.cellsOf t = fs.size) (h3 : ∀ (j : Nat) (f : Field), fs[j]? = some f → f.type = 3)
    (hv : Value.okWide P w r b0 t v) (h : DataW.Trod enc P w base sp held t v d p) : ∃ xs : List Int, v = .agg (xs.map fun x => Value.int .i64 x).toArray ∧ xs.length = fs.size := by
  obtain ⟨cs, rfl, hsz⟩ := okWide_struct hs hv
  obtain ⟨l⟩ := cs
  obtain ⟨fuel, hf⟩ := h
  obtain ⟨xs, n, _, hx, _, hlen, hg⟩ := DataW.trod_struct hs hf
  have hl : l.length = fs.size := hsz.trans hC
  refine ⟨l.map intOfV, ?_, by simpa using hl⟩
  congr 2
  rw [List.map_map]
  refine (List.map_id' l).symm.trans (List.map_congr_left fun x hx => ?_)
  obtain ⟨j, hj, rfl⟩ := List.getElem_of_mem hx
  have hjf : fs[j]? = some (fs[j]'(by omega)) := Array.getElem?_eq_getElem (by omega)
  obtain ⟨o, k⟩ := hone_of hone j _ hjf
  have hgj := hg j _ hjf
  rw [o, k, h3 j _ hjf] at hgj
  have hone' : (List.drop j (Value.agg ⟨l⟩).cells.toList).take 1 = [l[j]] := by
    show (l.drop j).take 1 = [l[j]]
    rw [List.drop_eq_getElem_cons hj]; rfl
  rw [hone'] at hgj
  have hxs : xs[j]? = some (xs[j]'(by omega)) := List.getElem?_eq_getElem (by omega)
  rw [hxs] at hgj
  obtain ⟨m, e, _, _⟩ := DataW.trod_int hu3 hgj
  simp only [List.cons.injEq, and_true] at e
  rw [e]
  rfl
/-- A slice of whole numbers, opened. -/
theorem open_sl_ints {P : Program} {H : Type} {enc : TypeId × Value → H} {w : World} {base : Nat} {sp : Nat → Bool} {held : Bool} {r : Reach} {b0 : Nat} {t e : TypeId} {k : IntKind} {v : Value} {d : DataW H} {p : List MemPlace}
    (ht : P.underlying t = some (.slice e)) (he : P.underlying e = some (.int k)) (hc : P.cellsOf e = 1) (hv : Value.okWide P w r b0 t v) (h : DataW.Trod enc P w base sp held t v d p) :
    v = .slice none 0 0 ∨ ∃ (a : Addr) (len cap : Nat), v = .slice (some a) len cap ∧ len ≤ cap ∧ cap ≤ maxLen ∧ ∀ i, i < len → ∃ z, w.cell? (a.add i) = some (.int k z) ∧ (Lit.int k z).wf = true := by
  obtain ⟨a, len, cap, rfl⟩ := okWide_slice ht hv
  obtain ⟨fuel, hf⟩ := h
  rcases open_ints ht he hc hf with ⟨hcs, _⟩ | ⟨a', len', cap', zs, hcs, _, hl, hm, hz, _, hcell, hwz⟩
  · left
    have : (Value.slice a len cap).cells.toList = [.slice a len cap] := rfl
    rw [this] at hcs
    injection hcs
  · right
    have : (Value.slice a len cap).cells.toList = [.slice a len cap] := rfl
    rw [this] at hcs
    injection hcs with hcs _
    refine ⟨a', len', cap', hcs, hl, hm, fun i hi => ?_⟩
    have hiz : i < zs.length := by rw [hz]; split <;> omega
    refine ⟨_, hcell i hiz, hwz _ ?_⟩
    rw [List.getD, List.getElem?_eq_getElem hiz]
    exact List.getElem_mem hiz
end Go.Proofs.YtaamjccffkdlhaaGreatDoor
