/- Closed facts of the translated program that every row of this seat asks: each is proved once. The order of the program's start is one long text: its letters are laid as a list first (a literal's own list costs the kernel gigabytes). Closed facts of the translated program that every row of this seat asks: each is proved once. The order of the program's start is one long text: its letters are laid as a list first (a literal's own list costs the kernel gigabytes). From a walk of a law to its row, for every law of this seat: the arguments read behind the call as before it because nothing below the old heap has changed. -/
import Derived.Test.YtjmmmggnbndolaaGreatRows
import Derived.WalkKit
import Derived.ProofKit
import Derived.Test.YtjmmmggnbndolaaGreatBase
import Derived.OpenShut
namespace Go.Proofs.YtjmmmggnbndolaaGreat
section
set_option linter.unusedSimpArgs false
theorem String.toList_of {s : String} {l : List Char} (h : s = String.ofList l) : s.toList = l := by rw [h]; exact String.toList_ofList
def io : List Char := [104, 97, 114, 110, 101, 115, 115, 32, 56, 54, 49, 52, 52, 48, 97, 56, 100, 50, 48, 56, 98, 98, 49, 53, 98, 54, 102, 97, 97, 100, 54, 97, 53, 49, 99, 52, 51, 53, 48, 57, 53, 52, 100, 54, 97, 50, 53, 53, 97, 51, 56, 100, 53, 53, 97, 50, 49, 54, 50, 98, 55, 53, 55, 57, 57, 99, 55, 52, 101, 99, 97, 97, 32, 99, 117, 116, 32, 97, 116, 32, 108, 111, 111, 112, 46, 101, 120, 97, 109, 112, 108, 101, 47, 103, 48, 49, 50, 51, 48, 47, 108, 97, 119, 115, 46, 70, 110, 69, 120, 97, 99, 116, 83, 117, 98, 109, 111, 100, 117, 108, 101, 79, 102, 32, 108, 111, 111, 112, 46, 101, 120, 97, 109, 112, 108, 101, 47, 103, 48, 49, 50, 51, 48, 47, 108, 97, 119, 115, 46, 70, 110, 69, 120, 97, 99, 116, 73, 115, 83, 117, 98, 109, 111, 100, 117, 108, 101, 32, 108, 111, 111, 112, 46, 101, 120, 97, 109, 112, 108, 101, 47, 103, 48, 49, 50, 51, 48, 47, 108, 97, 119, 115, 46, 70, 110, 69, 120, 97, 99, 116, 81, 117, 111, 116, 105, 101, 110, 116, 77, 111, 100, 117, 108, 101, 32, 108, 111, 111, 112, 46, 101, 120, 97, 109, 112, 108, 101, 47, 103, 48, 49, 50, 51, 48, 47, 108, 97, 119, 115, 46, 70, 110, 69, 120, 97, 99, 116, 76, 101, 103, 115, 79, 102, 32, 108, 111, 111, 112, 46, 101, 120, 97, 109, 112, 108, 101, 47, 103, 48, 49, 50, 51, 48, 47, 108, 97, 119, 115, 46, 70, 110, 69, 120, 97, 99, 116, 71, 101, 110, 101, 114, 97, 116, 101, 100, 83, 117, 98, 32, 108, 111, 111, 112, 46, 101, 120, 97, 109, 112, 108, 101, 47, 103, 48, 49, 50, 51, 48, 47, 108, 97, 119, 115, 46, 70, 110, 69, 120, 97, 99, 116, 65, 117, 103, 109, 101, 110, 116, 97, 116, 105, 111, 110, 73, 100, 101, 97, 108].map Char.ofNat
theorem ioL : Tryz.prog.initOrder.toList = io := String.toList_of (by kernel_rfl)
theorem lit_gc : ("gc" : String).toList = [103, 99].map Char.ofNat := String.toList_of (by kernel_rfl)
theorem lit_spec : ("spec" : String).toList = [115, 112, 101, 99].map Char.ofNat := String.toList_of (by kernel_rfl)
theorem lit_cut : ("cut" : String).toList = [99, 117, 116].map Char.ofNat := String.toList_of (by kernel_rfl)
theorem lit_stop : ("stop" : String).toList = [115, 116, 111, 112].map Char.ofNat := String.toList_of (by kernel_rfl)
theorem lit_carried : ("carried" : String).toList = [99, 97, 114, 114, 105, 101, 100].map Char.ofNat := String.toList_of (by kernel_rfl)
theorem lit_finals : ("finals" : String).toList = [102, 105, 110, 97, 108, 115].map Char.ofNat := String.toList_of (by kernel_rfl)
theorem lit_reflectrows : ("reflectrows" : String).toList = [114, 101, 102, 108, 101, 99, 116, 114, 111, 119, 115].map Char.ofNat := String.toList_of (by kernel_rfl)
theorem lit_leanrows : ("leanrows" : String).toList = [108, 101, 97, 110, 114, 111, 119, 115].map Char.ofNat := String.toList_of (by kernel_rfl)
theorem lit_onebuild : ("onebuild" : String).toList = [111, 110, 101, 98, 117, 105, 108, 100].map Char.ofNat := String.toList_of (by kernel_rfl)
theorem lit_publicsums : ("publicsums" : String).toList = [112, 117, 98, 108, 105, 99, 115, 117, 109, 115].map Char.ofNat := String.toList_of (by kernel_rfl)
theorem lit_eqguard : ("eqguard" : String).toList = [101, 113, 103, 117, 97, 114, 100].map Char.ofNat := String.toList_of (by kernel_rfl)
theorem lit_ownunsafe : ("ownunsafe" : String).toList = [111, 119, 110, 117, 110, 115, 97, 102, 101].map Char.ofNat := String.toList_of (by kernel_rfl)
theorem lit_libbeside : ("libbeside" : String).toList = [108, 105, 98, 98, 101, 115, 105, 100, 101].map Char.ofNat := String.toList_of (by kernel_rfl)
theorem lit_ownbeside : ("ownbeside" : String).toList = [111, 119, 110, 98, 101, 115, 105, 100, 101].map Char.ofNat := String.toList_of (by kernel_rfl)
theorem lit_reflbeside : ("reflbeside" : String).toList = [114, 101, 102, 108, 98, 101, 115, 105, 100, 101].map Char.ofNat := String.toList_of (by kernel_rfl)
theorem lit_aliases : ("aliases" : String).toList = [97, 108, 105, 97, 115, 101, 115].map Char.ofNat := String.toList_of (by kernel_rfl)
theorem lit_afterinit : ("afterinit" : String).toList = [97, 102, 116, 101, 114, 105, 110, 105, 116].map Char.ofNat := String.toList_of (by kernel_rfl)
theorem lit_crcplain : ("crcplain" : String).toList = [99, 114, 99, 112, 108, 97, 105, 110].map Char.ofNat := String.toList_of (by kernel_rfl)
theorem lit_roadunsafe : ("roadunsafe" : String).toList = [114, 111, 97, 100, 117, 110, 115, 97, 102, 101].map Char.ofNat := String.toList_of (by kernel_rfl)
theorem lit_fmthandon : ("fmthandon" : String).toList = [102, 109, 116, 104, 97, 110, 100, 111, 110].map Char.ofNat := String.toList_of (by kernel_rfl)
theorem lit_harness : ("harness" : String).toList = [104, 97, 114, 110, 101, 115, 115].map Char.ofNat := String.toList_of (by kernel_rfl)
theorem lit_ownmain : ("ownmain" : String).toList = [111, 119, 110, 109, 97, 105, 110].map Char.ofNat := String.toList_of (by kernel_rfl)
theorem behindMain {a b : List Char} {r : List (List Char)} (h1 : (a == "harness".toList || a == "ownmain".toList) = true) (h2 : isSumSigns b = true) : behindMainWord (a :: b :: r) = r := by
  show (if ((a == "harness".toList || a == "ownmain".toList) && isSumSigns b) = true then r else a :: b :: r) = r
  rw [h1, h2]; rfl
theorem wsX : behindMainWord (wordsSigns Tryz.prog.initOrder.toList) = [99, 117, 116].map Char.ofNat :: [97, 116].map Char.ofNat :: (wordsSigns io).drop 4 := by
  rw [ioL]
  have h : wordsSigns io = (wordsSigns io).head! :: (wordsSigns io).tail.head! :: ([99, 117, 116].map Char.ofNat :: [97, 116].map Char.ofNat :: (wordsSigns io).drop 4) := by kernel_rfl
  rw [h]
  exact behindMain (by rw [lit_harness, lit_ownmain]; kernel_rfl) (by kernel_rfl)
theorem strip : stripLifts liftWords ([99, 117, 116].map Char.ofNat :: [97, 116].map Char.ofNat :: (wordsSigns io).drop 4) = ([], [99, 117, 116].map Char.ofNat :: [97, 116].map Char.ofNat :: (wordsSigns io).drop 4) := by
  simp only [liftWords, stripLifts, lit_gc, lit_spec, lit_cut, lit_stop, lit_carried, lit_finals, lit_reflectrows, lit_leanrows, lit_onebuild, lit_publicsums, lit_eqguard, lit_ownunsafe, lit_libbeside, lit_ownbeside, lit_reflbeside, lit_aliases, lit_afterinit, lit_crcplain, lit_roadunsafe, lit_fmthandon, lit_harness, lit_ownmain]
  kernel_rfl
theorem mayEnter_of {P : Program} {c a : List Char} {r : List (List Char)} (h : behindMainWord (wordsSigns P.initOrder.toList) = c :: a :: r) (hs : stripLifts liftWords (c :: a :: r) = ([], c :: a :: r)) (hc : (some c == some "cut".toList) = true)
    (hl : P.laysLater = false) (hr : P.bearsReflect = false) (hd : P.doorFits [] = true) : P.mayEnter = true := by
  unfold Program.mayEnter
  rw [h]
  simp only [hs, hl, hr, hd, List.head?_cons, hc, List.contains_nil, Bool.false_or, Bool.not_false, Bool.or_true, Bool.and_true, Bool.true_and]
theorem liftsFinal_of {P : Program} {c a : List Char} {r : List (List Char)} (h : behindMainWord (wordsSigns P.initOrder.toList) = c :: a :: r) (hs : stripLifts liftWords (c :: a :: r) = ([], c :: a :: r)) (hc : (some c == some "cut".toList) = true)
    (hn : (some c == some "carried".toList) = false) : P.liftsFinal = false := by
  unfold Program.liftsFinal Program.headLifts
  simp only [h, hs, List.head?_cons, hc, hn, Bool.false_and, Bool.false_or, if_true]
  rfl
theorem make_of {P : Program} {c a : List Char} {r : List (List Char)} (h : behindMainWord (wordsSigns P.initOrder.toList) = c :: a :: r) (h1 : (c == "gc".toList) = false) (h2 : (c == "spec".toList) = false) (hc : (c == "cut".toList) = true) : P.make = some .cut := by
  unfold Program.make
  rw [h]
  simp only [h1, h2, hc, Bool.or_false, Bool.true_or, if_true]
  rfl
theorem mayEnterX : Tryz.prog.mayEnter = true := mayEnter_of wsX strip (by rw [lit_cut]; kernel_rfl) (by kernel_rfl) (by kernel_rfl) (by kernel_rfl)
theorem liftsX : Tryz.prog.liftsFinal = Rows.fnExactSubmoduleOfRow.lifted := (liftsFinal_of wsX strip (by rw [lit_cut]; kernel_rfl) (by rw [lit_carried]; kernel_rfl)).trans (by kernel_rfl)
theorem makeX : Tryz.prog.make = some Rows.fnExactSubmoduleOfRow.make := (make_of wsX (by rw [lit_gc]; kernel_rfl) (by rw [lit_spec]; kernel_rfl) (by rw [lit_cut]; kernel_rfl)).trans (by kernel_rfl)
end
section
theorem laidOutX : laidOutB Tryz.prog = true := by kernel_rfl
theorem mapsRowedX : mapsRowed Tryz.prog = true := by kernel_rfl
theorem plainKeysX : Tryz.prog.plainKeys = Rows.fnExactSubmoduleOfRow.plainKeys := by kernel_rfl
theorem stopsHeardX : Tryz.prog.stopsHeard = true := by kernel_rfl
theorem own : ownKnob Tryz.prog.godebug = none := by kernel_rfl

/-- The closed facts of a row but those of the program alone. -/
theorem closed_of (f : FuncId) (fn : Func) (s : ChangeSpec) (c : OpenClaim) (hl : c.lifted = Rows.fnExactSubmoduleOfRow.lifted) (hm : c.make = Rows.fnExactSubmoduleOfRow.make) (hp : c.plainKeys = Rows.fnExactSubmoduleOfRow.plainKeys)
    (h : (laidOutB Tryz.prog = true → mapsRowed Tryz.prog = true → (c.plainKeys == Tryz.prog.plainKeys) = true → Tryz.prog.stopsHeard = true → Tryz.prog.mayEnter = true → (c.lifted == Tryz.prog.liftsFinal) = true → (Tryz.prog.make == some c.make) = true → joinedFacts Tryz.prog f fn s c = true)) : joinedFacts Tryz.prog f fn s c = true :=
  h laidOutX mapsRowedX (by rw [plainKeysX, hp]; simp) stopsHeardX mayEnterX (by rw [liftsX, hl]; simp) (by rw [makeX, hm]; simp)
end
section
open Go.ChangeShapes Go.WideShapes Go.ChangeAt Go.RowKit

theorem trodAll_stays {H : Type} {enc : TypeId × Value → H} {P : Program} (hl : laidOutB P = true) {W W' : World} (hb : Below W.heap.size W W') :
    ∀ (ts : List TypeId), (∀ t ∈ ts, P.readableRec t = true ∧ t < P.types.size) → ∀ (vs : List Value) (ds : List (DataW H)) (ps : List MemPlace), (∀ x ∈ ps, x.block < W.heap.size) →
      DataW.TrodAll enc P W 0 (fun _ => true) true ts vs ds ps → DataW.TrodAll enc P W' 0 (fun b => decide (b < W.heap.size)) true ts vs ds ps
  | [], _, vs, ds, ps, _, h => by
    obtain ⟨rfl, rfl, rfl⟩ := trodAll_nil h
    exact trodAll_mk0
  | t :: ts, hr, vs, ds, ps, hlt, h => by
    obtain ⟨v, vs', d, ds', p, q, rfl, rfl, rfl, h0, h1⟩ := trodAll_cons h
    have ht := hr t (by simp)
    exact trodAll_cons_mk (Below.trod hl ht.1 ht.2 h0 hb (fun x hx => hlt x (by simp [hx]))) (trodAll_stays hl hb ts (fun u hu => hr u (by simp [hu])) vs' ds' q (fun x hx => hlt x (by simp [hx])) h1)

theorem law_post {H : Type} {enc : TypeId × Value → H} {P : Program} {f : Func} {s : ChangeSpec} {W W' : World} {args : Array Value} {ds gs : List (DataW H)} {before : List MemPlace} {tb : TypeId}
    (hl : laidOutB P = true) (hr : (f.params.toList.all fun t => P.readableRec t && decide (t < P.types.size)) = true) (hv : s.vars = []) (hres : f.resultTypes = #[tb]) (htb : P.underlying tb = some .bool)
    (hs : s.fn H (ds ++ gs) = { results := [.lit (.bool true)], args := ds }) (hW : DataW.Whole enc P f.params.toList s.vars false W args.toList ds gs before) (hb : Below W.heap.size W W') :
    s.post enc P f false true false false W args (.bool true) W' := by
  have hW' := hW
  obtain ⟨p, q, hA, hV, rfl, hfz, hnd⟩ := hW
  have hq : q = [] := by
    rw [hv] at hV
    cases gs with
    | nil => exact hV
    | cons g gs => exact hV.elim
  subst hq
  simp only [List.append_nil] at hW'
  refine ⟨ds, gs, p, [], p, [], hW', ?_, ?_, ?_, hb.frame _, fun h => by cases h⟩
  · rw [hs, hres]
    exact trodAll_mk1 (shut_bool htb true)
  · rw [hs]
    exact trodAll_stays hl hb _ (fun t ht => by simpa using (List.all_eq_true.1 hr) t ht) _ _ _ (fun x hx => by simpa using hW'.lt x (by simpa using hx)) hA
  · rw [hs, hv]
    rfl

/-! ### arguments that are arrays of bytes -/
/-- what the cells of a row hold -/
def cellInt (cs : Array Value) (i : Nat) : Int := match cs[i]? with | some (.int _ n) => n | _ => 0
theorem cell_u8 {P : Program} {w : World} {r : Reach} {base u : Nat} {v : Value} (hu : P.underlying u = some (.int .u8)) (h : Cell.okWide P w r base u v) : ∃ n : Int, v = .int .u8 n ∧ 0 ≤ n ∧ n ≤ 255 := by
  unfold Cell.okWide at h
  rw [hu] at h
  cases v <;> simp [Cell.ok, hu] at h
  obtain ⟨rfl, h1⟩ := h
  refine ⟨_, rfl, ?_, ?_⟩ <;> simp [IntKind.has, IntKind.min, IntKind.max, IntKind.signed, IntKind.bits] at h1 <;> omega
theorem open_bytes {P : Program} {w : World} {r : Reach} {base T u n m : Nat} {e : TypeId} {v : Value} (hT : P.underlying T = some (.array m e)) (hc : P.cellsOf T = n) (ht : P.cellTypes P.depth T = some (List.replicate n u)) (hu : P.underlying u = some (.int .u8)) (h : Value.okWide P w r base T v) :
    ∃ f : Nat → Int, v = .agg (row n f) ∧ ∀ i, i < n → 0 ≤ f i ∧ f i ≤ 255 := by
  simp only [Value.okWide, hT] at h
  obtain ⟨cs, rfl, hs, ts, hts, _, hall⟩ := h
  rw [ht] at hts
  simp only [Option.some.injEq] at hts
  subst hts
  rw [hc] at hs
  have key : ∀ i, i < n → ∃ k : Int, cs[i]? = some (.int .u8 k) ∧ 0 ≤ k ∧ k ≤ 255 := by
    intro i hi
    obtain ⟨v, hv⟩ : ∃ v, cs[i]? = some v := ⟨cs[i], by simp [hs, hi]⟩
    obtain ⟨u', h1, h2⟩ := hall i v hv
    have e : u' = u := by
      rw [List.getElem?_replicate] at h1
      split at h1
      · simpa using h1.symm
      · cases h1
    subst e
    obtain ⟨k, rfl, h3, h4⟩ := cell_u8 hu h2
    exact ⟨k, hv, h3, h4⟩
  refine ⟨cellInt cs, ?_, ?_⟩
  · congr 1
    apply Array.ext_getElem?
    intro i
    by_cases hi : i < n
    · obtain ⟨k, h1, _⟩ := key i hi
      rw [row_get? n _ i hi, h1]; simp [cellInt, h1]
    · rw [row_get_none n _ i (by omega)]; simp [hs]; omega
  · intro i hi
    obtain ⟨k, h1, h2, h3⟩ := key i hi
    simp [cellInt, h1, h2, h3]
end
end Go.Proofs.YtjmmmggnbndolaaGreat
