/-
  NARROWER THAN 'FOR EVERY INPUT', by the rows' own cells (each row's printed sentence says how): CodecIntegers: laid · CodecHex: laid · CodecDigits: laid · CodecRoundTrip: laid · CodecBytes: laid · CodecTorn: laid · CodecHexBack: laid · CodecDigitsBack: laid · CodecRefuses: laid.
  DERIVED. THE GIVEN ROWS OF THIS SEAT. 9 by the template 'for every input the law returns true; each argument reads behind the call as it read before'; 0 by the template 'total and deterministic' (their statements: YtheecmkkhdjhhaaDoorTotals.lean).
  GIVEN WITH THE SEED: the statements are not yours to turn. If you find one false, say at which input.
  Laid BY PROGRAM, IN A SANDBOX (cutbox-rows.mjs): the forced cells as the released guide's own fill.sh prints them over the translation 5cb5daf502e0268e… (all of the seat's roots in one cut). By AI agents, Wed Nov 11 2026. No macro, syntax, notation, axiom, sorry.
-/
import Derived.Test.YtheecmkkhdjhhaaDoorChecked
import GoSem.Claim
import GoSem.ClaimJoined
import GoSem.ClaimMapViews
import Derived.JoinedTies
import Derived.KernelRfl
namespace Go.Proofs.YtheecmkkhdjhhaaDoor
/- THE CELL 'sum', in the pinned program and in every row, IS THE sha256 OF THE DUMP (.gsa) THAT YtheecmkkhdjhhaaDoorProg.lean LOADS. Nothing in Lean hashes anything: it is a label: what it is worth is what the hold of that sum in a sandbox is worth. -/
noncomputable def Tryd.pinned : Pinned := { name := "ytheecmkkhdjhhaadoor", sum := "5cb5daf502e0268e40c8f3ae8ff4e34c97c8e823efc2d8181debe523dcaf2eb2", checked := Tryd.checked }
namespace Rows
def none {H : Type} : Left H := { results := [], args := [] }

/- WHAT THE LISTED PACKAGE-LEVEL VARIABLES READ AS WHEN THE CALL BEGINS. Each datum BY PROGRAM (the guide's laid-datum.mjs) off the statement by which the dump's own 'gosem.cut.vars' lays the variable. In a bare row this is a premise. The card (YtheecmkkhdjhhaaDoorCards.lean) ties it to the program's text. -/
def laid_math_bits_deBruijn32tab {H : Type} : DataW H := .agg [.lit (.int .u8 0), .lit (.int .u8 1), .lit (.int .u8 28), .lit (.int .u8 2), .lit (.int .u8 29), .lit (.int .u8 14), .lit (.int .u8 24), .lit (.int .u8 3), .lit (.int .u8 30), .lit (.int .u8 22), .lit (.int .u8 20), .lit (.int .u8 15), .lit (.int .u8 25), .lit (.int .u8 17), .lit (.int .u8 4), .lit (.int .u8 8), .lit (.int .u8 31), .lit (.int .u8 27), .lit (.int .u8 13), .lit (.int .u8 23), .lit (.int .u8 21), .lit (.int .u8 19), .lit (.int .u8 16), .lit (.int .u8 7), .lit (.int .u8 26), .lit (.int .u8 12), .lit (.int .u8 18), .lit (.int .u8 6), .lit (.int .u8 11), .lit (.int .u8 5), .lit (.int .u8 10), .lit (.int .u8 9)]
def laid_math_bits_deBruijn64tab {H : Type} : DataW H := .agg [.lit (.int .u8 0), .lit (.int .u8 1), .lit (.int .u8 56), .lit (.int .u8 2), .lit (.int .u8 57), .lit (.int .u8 49), .lit (.int .u8 28), .lit (.int .u8 3), .lit (.int .u8 61), .lit (.int .u8 58), .lit (.int .u8 42), .lit (.int .u8 50), .lit (.int .u8 38), .lit (.int .u8 29), .lit (.int .u8 17), .lit (.int .u8 4), .lit (.int .u8 62), .lit (.int .u8 47), .lit (.int .u8 59), .lit (.int .u8 36), .lit (.int .u8 45), .lit (.int .u8 43), .lit (.int .u8 51), .lit (.int .u8 22), .lit (.int .u8 53), .lit (.int .u8 39), .lit (.int .u8 33), .lit (.int .u8 30), .lit (.int .u8 24), .lit (.int .u8 18), .lit (.int .u8 12), .lit (.int .u8 5), .lit (.int .u8 63), .lit (.int .u8 55), .lit (.int .u8 48), .lit (.int .u8 27), .lit (.int .u8 60), .lit (.int .u8 41), .lit (.int .u8 37), .lit (.int .u8 16), .lit (.int .u8 46), .lit (.int .u8 35), .lit (.int .u8 44), .lit (.int .u8 21), .lit (.int .u8 52), .lit (.int .u8 32), .lit (.int .u8 23), .lit (.int .u8 11), .lit (.int .u8 54), .lit (.int .u8 26), .lit (.int .u8 40), .lit (.int .u8 15), .lit (.int .u8 34), .lit (.int .u8 20), .lit (.int .u8 31), .lit (.int .u8 10), .lit (.int .u8 25), .lit (.int .u8 14), .lit (.int .u8 19), .lit (.int .u8 9), .lit (.int .u8 13), .lit (.int .u8 8), .lit (.int .u8 7), .lit (.int .u8 6)]
def laid_internal_strconv_uint64pow10 {H : Type} : DataW H := .agg [.lit (.int .u64 1), .lit (.int .u64 10), .lit (.int .u64 100), .lit (.int .u64 1000), .lit (.int .u64 10000), .lit (.int .u64 100000), .lit (.int .u64 1000000), .lit (.int .u64 10000000), .lit (.int .u64 100000000), .lit (.int .u64 1000000000), .lit (.int .u64 10000000000), .lit (.int .u64 100000000000), .lit (.int .u64 1000000000000), .lit (.int .u64 10000000000000), .lit (.int .u64 100000000000000), .lit (.int .u64 1000000000000000), .lit (.int .u64 10000000000000000), .lit (.int .u64 100000000000000000), .lit (.int .u64 1000000000000000000), .lit (.int .u64 10000000000000000000)]
def laid_drumlin_codec_widths {H : Type} : DataW H := .agg [.lit (.int .i64 1), .lit (.int .i64 2), .lit (.int .i64 4), .lit (.int .i64 8)]

/-- 'drumlinlaw01.CodecIntegers': WHATEVER THE INPUT: true; the input reads as it did. -/
def codecIntegersSpec : ChangeSpec := { name := "codecIntegers", fn := fun _ => fun
  | [d1, d2, d3, d4] => { results := [.lit (.bool true)], args := [d1, d2, d3, d4] }
  | _ => none }
def codecIntegersRow : OpenClaim := { program := "ytheecmkkhdjhhaadoor", sum := "5cb5daf502e0268e40c8f3ae8ff4e34c97c8e823efc2d8181debe523dcaf2eb2", func := "drumlin/drumlinlaw01.CodecIntegers", spec := "codecIntegers", named := ["drumlin/codec.widths", "internal/strconv.uint64pow10", "math/bits.deBruijn32tab", "math/bits.deBruijn64tab"], apart := false, laid := [("math/bits.deBruijn32tab", laid_math_bits_deBruijn32tab), ("math/bits.deBruijn64tab", laid_math_bits_deBruijn64tab), ("internal/strconv.uint64pow10", laid_internal_strconv_uint64pow10), ("drumlin/codec.widths", laid_drumlin_codec_widths)] }
def CodecIntegersSaid : Prop := codecIntegersRow.holds Tryd.pinned (OpenSpec.ofChange codecIntegersSpec)

/-- ITS FALSE NEIGHBOUR: 'it returns false'. Refute it at one input. -/
def codecIntegersWrong : ChangeSpec := { name := "codecIntegers", fn := fun _ => fun
  | [d1, d2, d3, d4] => { results := [.lit (.bool false)], args := [d1, d2, d3, d4] }
  | _ => none }
def CodecIntegersWrongFalsely : Prop := codecIntegersRow.holds Tryd.pinned (OpenSpec.ofChange codecIntegersWrong)

/-- 'drumlinlaw01.CodecHex': WHATEVER THE INPUT: true; the input reads as it did. -/
def codecHexSpec : ChangeSpec := { name := "codecHex", fn := fun _ => fun
  | [d1, d2] => { results := [.lit (.bool true)], args := [d1, d2] }
  | _ => none }
def codecHexRow : OpenClaim := { program := "ytheecmkkhdjhhaadoor", sum := "5cb5daf502e0268e40c8f3ae8ff4e34c97c8e823efc2d8181debe523dcaf2eb2", func := "drumlin/drumlinlaw01.CodecHex", spec := "codecHex", named := ["drumlin/codec.widths", "internal/strconv.uint64pow10", "math/bits.deBruijn32tab", "math/bits.deBruijn64tab"], apart := false, laid := [("math/bits.deBruijn32tab", laid_math_bits_deBruijn32tab), ("math/bits.deBruijn64tab", laid_math_bits_deBruijn64tab), ("internal/strconv.uint64pow10", laid_internal_strconv_uint64pow10), ("drumlin/codec.widths", laid_drumlin_codec_widths)] }
def CodecHexSaid : Prop := codecHexRow.holds Tryd.pinned (OpenSpec.ofChange codecHexSpec)

/-- ITS FALSE NEIGHBOUR: 'it returns false'. Refute it at one input. -/
def codecHexWrong : ChangeSpec := { name := "codecHex", fn := fun _ => fun
  | [d1, d2] => { results := [.lit (.bool false)], args := [d1, d2] }
  | _ => none }
def CodecHexWrongFalsely : Prop := codecHexRow.holds Tryd.pinned (OpenSpec.ofChange codecHexWrong)

/-- 'drumlinlaw01.CodecDigits': WHATEVER THE INPUT: true; the input reads as it did. -/
def codecDigitsSpec : ChangeSpec := { name := "codecDigits", fn := fun _ => fun
  | [d1, d2] => { results := [.lit (.bool true)], args := [d1, d2] }
  | _ => none }
def codecDigitsRow : OpenClaim := { program := "ytheecmkkhdjhhaadoor", sum := "5cb5daf502e0268e40c8f3ae8ff4e34c97c8e823efc2d8181debe523dcaf2eb2", func := "drumlin/drumlinlaw01.CodecDigits", spec := "codecDigits", recurses := true, named := ["drumlin/codec.widths", "internal/strconv.uint64pow10", "math/bits.deBruijn32tab", "math/bits.deBruijn64tab"], apart := false, laid := [("math/bits.deBruijn32tab", laid_math_bits_deBruijn32tab), ("math/bits.deBruijn64tab", laid_math_bits_deBruijn64tab), ("internal/strconv.uint64pow10", laid_internal_strconv_uint64pow10), ("drumlin/codec.widths", laid_drumlin_codec_widths)] }
def CodecDigitsSaid : Prop := codecDigitsRow.holds Tryd.pinned (OpenSpec.ofChange codecDigitsSpec)

/-- ITS FALSE NEIGHBOUR: 'it returns false'. Refute it at one input. -/
def codecDigitsWrong : ChangeSpec := { name := "codecDigits", fn := fun _ => fun
  | [d1, d2] => { results := [.lit (.bool false)], args := [d1, d2] }
  | _ => none }
def CodecDigitsWrongFalsely : Prop := codecDigitsRow.holds Tryd.pinned (OpenSpec.ofChange codecDigitsWrong)

/-- 'drumlinlaw01.CodecRoundTrip': WHATEVER THE INPUT: true; the input reads as it did. -/
def codecRoundTripSpec : ChangeSpec := { name := "codecRoundTrip", fn := fun _ => fun
  | [d1, d2, d3] => { results := [.lit (.bool true)], args := [d1, d2, d3] }
  | _ => none }
def codecRoundTripRow : OpenClaim := { program := "ytheecmkkhdjhhaadoor", sum := "5cb5daf502e0268e40c8f3ae8ff4e34c97c8e823efc2d8181debe523dcaf2eb2", func := "drumlin/drumlinlaw01.CodecRoundTrip", spec := "codecRoundTrip", named := ["drumlin/codec.widths", "internal/strconv.uint64pow10", "math/bits.deBruijn32tab", "math/bits.deBruijn64tab"], apart := false, laid := [("math/bits.deBruijn32tab", laid_math_bits_deBruijn32tab), ("math/bits.deBruijn64tab", laid_math_bits_deBruijn64tab), ("internal/strconv.uint64pow10", laid_internal_strconv_uint64pow10), ("drumlin/codec.widths", laid_drumlin_codec_widths)] }
def CodecRoundTripSaid : Prop := codecRoundTripRow.holds Tryd.pinned (OpenSpec.ofChange codecRoundTripSpec)

/-- ITS FALSE NEIGHBOUR: 'it returns false'. Refute it at one input. -/
def codecRoundTripWrong : ChangeSpec := { name := "codecRoundTrip", fn := fun _ => fun
  | [d1, d2, d3] => { results := [.lit (.bool false)], args := [d1, d2, d3] }
  | _ => none }
def CodecRoundTripWrongFalsely : Prop := codecRoundTripRow.holds Tryd.pinned (OpenSpec.ofChange codecRoundTripWrong)

/-- 'drumlinlaw01.CodecBytes': WHATEVER THE INPUT: true; the input reads as it did. -/
def codecBytesSpec : ChangeSpec := { name := "codecBytes", fn := fun _ => fun
  | [d] => { results := [.lit (.bool true)], args := [d] }
  | _ => none }
def codecBytesRow : OpenClaim := { program := "ytheecmkkhdjhhaadoor", sum := "5cb5daf502e0268e40c8f3ae8ff4e34c97c8e823efc2d8181debe523dcaf2eb2", func := "drumlin/drumlinlaw01.CodecBytes", spec := "codecBytes", named := ["drumlin/codec.widths", "internal/strconv.uint64pow10", "math/bits.deBruijn32tab", "math/bits.deBruijn64tab"], apart := false, laid := [("math/bits.deBruijn32tab", laid_math_bits_deBruijn32tab), ("math/bits.deBruijn64tab", laid_math_bits_deBruijn64tab), ("internal/strconv.uint64pow10", laid_internal_strconv_uint64pow10), ("drumlin/codec.widths", laid_drumlin_codec_widths)] }
def CodecBytesSaid : Prop := codecBytesRow.holds Tryd.pinned (OpenSpec.ofChange codecBytesSpec)

/-- ITS FALSE NEIGHBOUR: 'it returns false'. Refute it at one input. -/
def codecBytesWrong : ChangeSpec := { name := "codecBytes", fn := fun _ => fun
  | [d] => { results := [.lit (.bool false)], args := [d] }
  | _ => none }
def CodecBytesWrongFalsely : Prop := codecBytesRow.holds Tryd.pinned (OpenSpec.ofChange codecBytesWrong)

/-- 'drumlinlaw01.CodecTorn': WHATEVER THE INPUT: true; the input reads as it did. -/
def codecTornSpec : ChangeSpec := { name := "codecTorn", fn := fun _ => fun
  | [d1, d2] => { results := [.lit (.bool true)], args := [d1, d2] }
  | _ => none }
def codecTornRow : OpenClaim := { program := "ytheecmkkhdjhhaadoor", sum := "5cb5daf502e0268e40c8f3ae8ff4e34c97c8e823efc2d8181debe523dcaf2eb2", func := "drumlin/drumlinlaw01.CodecTorn", spec := "codecTorn", named := ["drumlin/codec.widths", "internal/strconv.uint64pow10", "math/bits.deBruijn32tab", "math/bits.deBruijn64tab"], apart := false, laid := [("math/bits.deBruijn32tab", laid_math_bits_deBruijn32tab), ("math/bits.deBruijn64tab", laid_math_bits_deBruijn64tab), ("internal/strconv.uint64pow10", laid_internal_strconv_uint64pow10), ("drumlin/codec.widths", laid_drumlin_codec_widths)] }
def CodecTornSaid : Prop := codecTornRow.holds Tryd.pinned (OpenSpec.ofChange codecTornSpec)

/-- ITS FALSE NEIGHBOUR: 'it returns false'. Refute it at one input. -/
def codecTornWrong : ChangeSpec := { name := "codecTorn", fn := fun _ => fun
  | [d1, d2] => { results := [.lit (.bool false)], args := [d1, d2] }
  | _ => none }
def CodecTornWrongFalsely : Prop := codecTornRow.holds Tryd.pinned (OpenSpec.ofChange codecTornWrong)

/-- 'drumlinlaw01.CodecHexBack': WHATEVER THE INPUT: true; the input reads as it did. -/
def codecHexBackSpec : ChangeSpec := { name := "codecHexBack", fn := fun _ => fun
  | [d1, d2] => { results := [.lit (.bool true)], args := [d1, d2] }
  | _ => none }
def codecHexBackRow : OpenClaim := { program := "ytheecmkkhdjhhaadoor", sum := "5cb5daf502e0268e40c8f3ae8ff4e34c97c8e823efc2d8181debe523dcaf2eb2", func := "drumlin/drumlinlaw01.CodecHexBack", spec := "codecHexBack", named := ["drumlin/codec.widths", "internal/strconv.uint64pow10", "math/bits.deBruijn32tab", "math/bits.deBruijn64tab"], apart := false, laid := [("math/bits.deBruijn32tab", laid_math_bits_deBruijn32tab), ("math/bits.deBruijn64tab", laid_math_bits_deBruijn64tab), ("internal/strconv.uint64pow10", laid_internal_strconv_uint64pow10), ("drumlin/codec.widths", laid_drumlin_codec_widths)] }
def CodecHexBackSaid : Prop := codecHexBackRow.holds Tryd.pinned (OpenSpec.ofChange codecHexBackSpec)

/-- ITS FALSE NEIGHBOUR: 'it returns false'. Refute it at one input. -/
def codecHexBackWrong : ChangeSpec := { name := "codecHexBack", fn := fun _ => fun
  | [d1, d2] => { results := [.lit (.bool false)], args := [d1, d2] }
  | _ => none }
def CodecHexBackWrongFalsely : Prop := codecHexBackRow.holds Tryd.pinned (OpenSpec.ofChange codecHexBackWrong)

/-- 'drumlinlaw01.CodecDigitsBack': WHATEVER THE INPUT: true; the input reads as it did. -/
def codecDigitsBackSpec : ChangeSpec := { name := "codecDigitsBack", fn := fun _ => fun
  | [d1, d2, d3] => { results := [.lit (.bool true)], args := [d1, d2, d3] }
  | _ => none }
def codecDigitsBackRow : OpenClaim := { program := "ytheecmkkhdjhhaadoor", sum := "5cb5daf502e0268e40c8f3ae8ff4e34c97c8e823efc2d8181debe523dcaf2eb2", func := "drumlin/drumlinlaw01.CodecDigitsBack", spec := "codecDigitsBack", named := ["internal/strconv.uint64pow10", "math/bits.deBruijn32tab", "math/bits.deBruijn64tab", "drumlin/codec.widths"], apart := false, laid := [("math/bits.deBruijn32tab", laid_math_bits_deBruijn32tab), ("math/bits.deBruijn64tab", laid_math_bits_deBruijn64tab), ("internal/strconv.uint64pow10", laid_internal_strconv_uint64pow10), ("drumlin/codec.widths", laid_drumlin_codec_widths)] }
def CodecDigitsBackSaid : Prop := codecDigitsBackRow.holds Tryd.pinned (OpenSpec.ofChange codecDigitsBackSpec)

/-- ITS FALSE NEIGHBOUR: 'it returns false'. Refute it at one input. -/
def codecDigitsBackWrong : ChangeSpec := { name := "codecDigitsBack", fn := fun _ => fun
  | [d1, d2, d3] => { results := [.lit (.bool false)], args := [d1, d2, d3] }
  | _ => none }
def CodecDigitsBackWrongFalsely : Prop := codecDigitsBackRow.holds Tryd.pinned (OpenSpec.ofChange codecDigitsBackWrong)

/-- 'drumlinlaw01.CodecRefuses': WHATEVER THE INPUT: true; the input reads as it did. -/
def codecRefusesSpec : ChangeSpec := { name := "codecRefuses", fn := fun _ => fun
  | [d1, d2, d3] => { results := [.lit (.bool true)], args := [d1, d2, d3] }
  | _ => none }
def codecRefusesRow : OpenClaim := { program := "ytheecmkkhdjhhaadoor", sum := "5cb5daf502e0268e40c8f3ae8ff4e34c97c8e823efc2d8181debe523dcaf2eb2", func := "drumlin/drumlinlaw01.CodecRefuses", spec := "codecRefuses", named := ["drumlin/codec.widths", "internal/strconv.uint64pow10", "math/bits.deBruijn32tab", "math/bits.deBruijn64tab"], apart := false, laid := [("math/bits.deBruijn32tab", laid_math_bits_deBruijn32tab), ("math/bits.deBruijn64tab", laid_math_bits_deBruijn64tab), ("internal/strconv.uint64pow10", laid_internal_strconv_uint64pow10), ("drumlin/codec.widths", laid_drumlin_codec_widths)] }
def CodecRefusesSaid : Prop := codecRefusesRow.holds Tryd.pinned (OpenSpec.ofChange codecRefusesSpec)

/-- ITS FALSE NEIGHBOUR: 'it returns false'. Refute it at one input. -/
def codecRefusesWrong : ChangeSpec := { name := "codecRefuses", fn := fun _ => fun
  | [d1, d2, d3] => { results := [.lit (.bool false)], args := [d1, d2, d3] }
  | _ => none }
def CodecRefusesWrongFalsely : Prop := codecRefusesRow.holds Tryd.pinned (OpenSpec.ofChange codecRefusesWrong)

/- THE SECOND FORM. 'bulk': how many values and letters a reading holds, each counted each time it is reached (what is shared counts as often as it is met; a slice's spare places count too). A statement '..UptoSaid' is the law's where the arguments, and the package variables that the reading takes, are together of bulk at most 1048576: NARROWER than '..Said'. Prove '..Said' where nothing that the law and all that it calls make is longer than what came in: it says more and counts as full. Else prove '..UptoSaid'. A law counts once. -/
mutual
def uptoBulk {H : Type} : DataW H → Nat
  | .lit (.string bytes) => bytes.length + 1
  | .lit _ => 1
  | .nil => 1
  | .ptr d => uptoBulk d + 1
  | .slice elems spare => uptoBulkAll elems + uptoBulkAll spare + 1
  | .agg parts => uptoBulkAll parts + 1
  | .iface _ d => uptoBulk d + 1
  | .map entries => uptoBulkEntries entries + 1
  | .held _ => 1
def uptoBulkAll {H : Type} : List (DataW H) → Nat
  | [] => 0
  | d :: r => uptoBulk d + uptoBulkAll r
def uptoBulkEntries {H : Type} : List (Lit × DataW H) → Nat
  | [] => 0
  | x :: r => uptoBulkEntry x + uptoBulkEntries r
def uptoBulkEntry {H : Type} : Lit × DataW H → Nat
  | (.string bytes, d) => bytes.length + uptoBulk d + 1
  | (_, d) => uptoBulk d + 1
 end
def uptoSmall : (H : Type) → List (DataW H) → Bool := fun _ ds => decide (uptoBulkAll ds ≤ 1048576)
def OpenSpec.upto (s : _root_.Go.ChangeSpec) : _root_.Go.OpenSpec := { _root_.Go.OpenSpec.ofChange s with cond := some uptoSmall }

/-- 'drumlinlaw01.CodecIntegers', WHERE WHAT IT READS IS OF BULK AT MOST 1048576: true; the input reads as it did. -/
def codecIntegersUptoRow : OpenClaim := { program := "ytheecmkkhdjhhaadoor", sum := "5cb5daf502e0268e40c8f3ae8ff4e34c97c8e823efc2d8181debe523dcaf2eb2", func := "drumlin/drumlinlaw01.CodecIntegers", spec := "codecIntegers", named := ["drumlin/codec.widths", "internal/strconv.uint64pow10", "math/bits.deBruijn32tab", "math/bits.deBruijn64tab"], apart := false, laid := [("math/bits.deBruijn32tab", laid_math_bits_deBruijn32tab), ("math/bits.deBruijn64tab", laid_math_bits_deBruijn64tab), ("internal/strconv.uint64pow10", laid_internal_strconv_uint64pow10), ("drumlin/codec.widths", laid_drumlin_codec_widths)], narrowed := true }
def CodecIntegersUptoSaid : Prop := codecIntegersUptoRow.holds Tryd.pinned (OpenSpec.upto codecIntegersSpec)

/-- 'drumlinlaw01.CodecHex', WHERE WHAT IT READS IS OF BULK AT MOST 1048576: true; the input reads as it did. -/
def codecHexUptoRow : OpenClaim := { program := "ytheecmkkhdjhhaadoor", sum := "5cb5daf502e0268e40c8f3ae8ff4e34c97c8e823efc2d8181debe523dcaf2eb2", func := "drumlin/drumlinlaw01.CodecHex", spec := "codecHex", named := ["drumlin/codec.widths", "internal/strconv.uint64pow10", "math/bits.deBruijn32tab", "math/bits.deBruijn64tab"], apart := false, laid := [("math/bits.deBruijn32tab", laid_math_bits_deBruijn32tab), ("math/bits.deBruijn64tab", laid_math_bits_deBruijn64tab), ("internal/strconv.uint64pow10", laid_internal_strconv_uint64pow10), ("drumlin/codec.widths", laid_drumlin_codec_widths)], narrowed := true }
def CodecHexUptoSaid : Prop := codecHexUptoRow.holds Tryd.pinned (OpenSpec.upto codecHexSpec)

/-- 'drumlinlaw01.CodecDigits', WHERE WHAT IT READS IS OF BULK AT MOST 1048576: true; the input reads as it did. -/
def codecDigitsUptoRow : OpenClaim := { program := "ytheecmkkhdjhhaadoor", sum := "5cb5daf502e0268e40c8f3ae8ff4e34c97c8e823efc2d8181debe523dcaf2eb2", func := "drumlin/drumlinlaw01.CodecDigits", spec := "codecDigits", recurses := true, named := ["drumlin/codec.widths", "internal/strconv.uint64pow10", "math/bits.deBruijn32tab", "math/bits.deBruijn64tab"], apart := false, laid := [("math/bits.deBruijn32tab", laid_math_bits_deBruijn32tab), ("math/bits.deBruijn64tab", laid_math_bits_deBruijn64tab), ("internal/strconv.uint64pow10", laid_internal_strconv_uint64pow10), ("drumlin/codec.widths", laid_drumlin_codec_widths)], narrowed := true }
def CodecDigitsUptoSaid : Prop := codecDigitsUptoRow.holds Tryd.pinned (OpenSpec.upto codecDigitsSpec)

/-- 'drumlinlaw01.CodecRoundTrip', WHERE WHAT IT READS IS OF BULK AT MOST 1048576: true; the input reads as it did. -/
def codecRoundTripUptoRow : OpenClaim := { program := "ytheecmkkhdjhhaadoor", sum := "5cb5daf502e0268e40c8f3ae8ff4e34c97c8e823efc2d8181debe523dcaf2eb2", func := "drumlin/drumlinlaw01.CodecRoundTrip", spec := "codecRoundTrip", named := ["drumlin/codec.widths", "internal/strconv.uint64pow10", "math/bits.deBruijn32tab", "math/bits.deBruijn64tab"], apart := false, laid := [("math/bits.deBruijn32tab", laid_math_bits_deBruijn32tab), ("math/bits.deBruijn64tab", laid_math_bits_deBruijn64tab), ("internal/strconv.uint64pow10", laid_internal_strconv_uint64pow10), ("drumlin/codec.widths", laid_drumlin_codec_widths)], narrowed := true }
def CodecRoundTripUptoSaid : Prop := codecRoundTripUptoRow.holds Tryd.pinned (OpenSpec.upto codecRoundTripSpec)

/-- 'drumlinlaw01.CodecBytes', WHERE WHAT IT READS IS OF BULK AT MOST 1048576: true; the input reads as it did. -/
def codecBytesUptoRow : OpenClaim := { program := "ytheecmkkhdjhhaadoor", sum := "5cb5daf502e0268e40c8f3ae8ff4e34c97c8e823efc2d8181debe523dcaf2eb2", func := "drumlin/drumlinlaw01.CodecBytes", spec := "codecBytes", named := ["drumlin/codec.widths", "internal/strconv.uint64pow10", "math/bits.deBruijn32tab", "math/bits.deBruijn64tab"], apart := false, laid := [("math/bits.deBruijn32tab", laid_math_bits_deBruijn32tab), ("math/bits.deBruijn64tab", laid_math_bits_deBruijn64tab), ("internal/strconv.uint64pow10", laid_internal_strconv_uint64pow10), ("drumlin/codec.widths", laid_drumlin_codec_widths)], narrowed := true }
def CodecBytesUptoSaid : Prop := codecBytesUptoRow.holds Tryd.pinned (OpenSpec.upto codecBytesSpec)

/-- 'drumlinlaw01.CodecTorn', WHERE WHAT IT READS IS OF BULK AT MOST 1048576: true; the input reads as it did. -/
def codecTornUptoRow : OpenClaim := { program := "ytheecmkkhdjhhaadoor", sum := "5cb5daf502e0268e40c8f3ae8ff4e34c97c8e823efc2d8181debe523dcaf2eb2", func := "drumlin/drumlinlaw01.CodecTorn", spec := "codecTorn", named := ["drumlin/codec.widths", "internal/strconv.uint64pow10", "math/bits.deBruijn32tab", "math/bits.deBruijn64tab"], apart := false, laid := [("math/bits.deBruijn32tab", laid_math_bits_deBruijn32tab), ("math/bits.deBruijn64tab", laid_math_bits_deBruijn64tab), ("internal/strconv.uint64pow10", laid_internal_strconv_uint64pow10), ("drumlin/codec.widths", laid_drumlin_codec_widths)], narrowed := true }
def CodecTornUptoSaid : Prop := codecTornUptoRow.holds Tryd.pinned (OpenSpec.upto codecTornSpec)

/-- 'drumlinlaw01.CodecHexBack', WHERE WHAT IT READS IS OF BULK AT MOST 1048576: true; the input reads as it did. -/
def codecHexBackUptoRow : OpenClaim := { program := "ytheecmkkhdjhhaadoor", sum := "5cb5daf502e0268e40c8f3ae8ff4e34c97c8e823efc2d8181debe523dcaf2eb2", func := "drumlin/drumlinlaw01.CodecHexBack", spec := "codecHexBack", named := ["drumlin/codec.widths", "internal/strconv.uint64pow10", "math/bits.deBruijn32tab", "math/bits.deBruijn64tab"], apart := false, laid := [("math/bits.deBruijn32tab", laid_math_bits_deBruijn32tab), ("math/bits.deBruijn64tab", laid_math_bits_deBruijn64tab), ("internal/strconv.uint64pow10", laid_internal_strconv_uint64pow10), ("drumlin/codec.widths", laid_drumlin_codec_widths)], narrowed := true }
def CodecHexBackUptoSaid : Prop := codecHexBackUptoRow.holds Tryd.pinned (OpenSpec.upto codecHexBackSpec)

/-- 'drumlinlaw01.CodecDigitsBack', WHERE WHAT IT READS IS OF BULK AT MOST 1048576: true; the input reads as it did. -/
def codecDigitsBackUptoRow : OpenClaim := { program := "ytheecmkkhdjhhaadoor", sum := "5cb5daf502e0268e40c8f3ae8ff4e34c97c8e823efc2d8181debe523dcaf2eb2", func := "drumlin/drumlinlaw01.CodecDigitsBack", spec := "codecDigitsBack", named := ["internal/strconv.uint64pow10", "math/bits.deBruijn32tab", "math/bits.deBruijn64tab", "drumlin/codec.widths"], apart := false, laid := [("math/bits.deBruijn32tab", laid_math_bits_deBruijn32tab), ("math/bits.deBruijn64tab", laid_math_bits_deBruijn64tab), ("internal/strconv.uint64pow10", laid_internal_strconv_uint64pow10), ("drumlin/codec.widths", laid_drumlin_codec_widths)], narrowed := true }
def CodecDigitsBackUptoSaid : Prop := codecDigitsBackUptoRow.holds Tryd.pinned (OpenSpec.upto codecDigitsBackSpec)

/-- 'drumlinlaw01.CodecRefuses', WHERE WHAT IT READS IS OF BULK AT MOST 1048576: true; the input reads as it did. -/
def codecRefusesUptoRow : OpenClaim := { program := "ytheecmkkhdjhhaadoor", sum := "5cb5daf502e0268e40c8f3ae8ff4e34c97c8e823efc2d8181debe523dcaf2eb2", func := "drumlin/drumlinlaw01.CodecRefuses", spec := "codecRefuses", named := ["drumlin/codec.widths", "internal/strconv.uint64pow10", "math/bits.deBruijn32tab", "math/bits.deBruijn64tab"], apart := false, laid := [("math/bits.deBruijn32tab", laid_math_bits_deBruijn32tab), ("math/bits.deBruijn64tab", laid_math_bits_deBruijn64tab), ("internal/strconv.uint64pow10", laid_internal_strconv_uint64pow10), ("drumlin/codec.widths", laid_drumlin_codec_widths)], narrowed := true }
def CodecRefusesUptoSaid : Prop := codecRefusesUptoRow.holds Tryd.pinned (OpenSpec.upto codecRefusesSpec)

end Rows
end Go.Proofs.YtheecmkkhdjhhaaDoor
