/- What the frames of all cards of this seat share: what the listed variables hold, and a world for the witness. -/
import Derived.Test.YtmcdjppppnmomaaDoorCards
import Derived.Test.YtmcdjppppnmomaaDoorTie
import Derived.Test.YtmcdjppppnmomaaDoorFrame
import Derived.Deep.DeepHandedRow
import Derived.Deep.DeepWitnessRowRef
import Derived.Lib.LaidTab
import Derived.Lib.ItoaNum
import Derived.Stop.LaidErr
import Derived.WalkSmall
namespace Go.Proofs.YtmcdjppppnmomaaDoor
open Go.ChangeShapes Go.WideShapes Go.ChangeAt Go.RowKit

/-- The powers of ten that the library's decimal texts read. -/
def Tab10 (w : World) : Prop := Lib.TabIs Tryd.prog w "internal/strconv.uint64pow10" .u64 Lib.pow10Tab
theorem gPow : Tryd.prog.globalNamed "internal/strconv.uint64pow10" = some 3 := by kernel_rfl
theorem Tab10.below {w w' : World} (h : Tab10 w) (hb : Below w.heap.size w w') : Tab10 w' := by
  have hl : 3 < w.heap.size := by
    have hc := Lib.TabIs.cell h gPow 0 (by decide)
    exact World.block_lt_of_cell? w _ hc
  unfold Tab10 Lib.TabIs at *
  rw [← h]
  unfold World.var?
  rw [gPow]
  simp only [Option.bind_some]
  rw [hb.block _ hl]

theorem gPowType : (Tryd.prog.globals[3]?).map (·.type) = some 80 := by kernel_rfl
theorem cellsPow : Tryd.prog.cellsOf 80 = 20 := by kernel_rfl
theorem cellsU64 : Tryd.prog.cellsOf 67 = 1 := by kernel_rfl
theorem tab10_of {W : World} {r : List (String × DataW Unit)} (h : laidMet Tryd.prog (("internal/strconv.uint64pow10", Rows.laid_internal_strconv_uint64pow10) :: r) W) : Tab10 W :=
  Lib.tabIs_of_head (rest := r) gPow gPowType Tryd.underlying80 Tryd.underlying67 cellsU64 cellsPow h

/-- The library's two errors hold each some value of an interface's type. -/
def ErrVars (w : World) : Prop :=
  ∃ e1 e2 : Value, w.cell? ⟨1, 0, none⟩ = some e1 ∧ (e1 = .nilIface ∨ ∃ te pe, e1 = .iface te pe) ∧ w.cell? ⟨2, 0, none⟩ = some e2 ∧ (e2 = .nilIface ∨ ∃ te pe, e2 = .iface te pe)
theorem ErrVars.below {w w' : World} (h : ErrVars w) (hb : Below w.heap.size w w') : ErrVars w' := by
  obtain ⟨e1, e2, h1, p1, h2, p2⟩ := h
  exact ⟨e1, e2, (hb.cell (World.block_lt_of_cell? w _ h1)).trans h1, p1, (hb.cell (World.block_lt_of_cell? w _ h2)).trans h2, p2⟩
theorem gSyn : Tryd.prog.globalNamed "strconv.ErrSyntax" = some 1 := by kernel_rfl
theorem gRng : Tryd.prog.globalNamed "strconv.ErrRange" = some 2 := by kernel_rfl
theorem gSynType : (Tryd.prog.globals[1]?).map (·.type) = some 47 := by kernel_rfl
theorem gRngType : (Tryd.prog.globals[2]?).map (·.type) = some 47 := by kernel_rfl
theorem cellsErr : Tryd.prog.cellsOf 87 = 1 := by kernel_rfl
theorem cellsStr : Tryd.prog.cellsOf 9 = 1 := by kernel_rfl
/-- The name of the library's error type, as the rows list it. -/
def errName : String := match (Rows.laid_strconv_ErrSyntax : DataW Unit) with
  | .iface nm _ => nm
  | _ => "none"
def bareName : String := "errors.errorString"
theorem errName_eq {pre : String} (h : pre = (errName.take 1).toString) : pre ++ bareName = errName := by subst h; decide +kernel
theorem rowErr (u : TypeId) (h : Tryd.prog.typeName? 3 u = some errName) : u = 85 :=
  typeName_ptr_named (nm := bareName) (by rw [errName_eq (by decide +kernel)]; kernel_rfl) (by kernel_rfl) (by decide +kernel) u (by rw [errName_eq (by decide +kernel)]; exact h)
theorem errVars_of {W : World} {r : List (String × DataW Unit)} (h : laidMet Tryd.prog (("strconv.ErrRange", Rows.laid_strconv_ErrRange) :: ("strconv.ErrSyntax", Rows.laid_strconv_ErrSyntax) :: r) W) : ErrVars W := by
  obtain ⟨a0, s0, hv0, -, -, -⟩ := laid_sentinel h gRng gRngType Tryd.underlying47 rowErr Tryd.underlying85 Tryd.underlying87 rfl rfl Tryd.underlying9 cellsErr cellsStr
  obtain ⟨a1, s1, hv1, -, -, -⟩ := laid_sentinel h.tail gSyn gSynType Tryd.underlying47 rowErr Tryd.underlying85 Tryd.underlying87 rfl rfl Tryd.underlying9 cellsErr cellsStr
  exact ⟨_, _, by have h0 := World.var?_cell gSyn hv1 0; simpa using h0, Or.inr ⟨_, _, rfl⟩, by have h0 := World.var?_cell gRng hv0 0; simpa using h0, Or.inr ⟨_, _, rfl⟩⟩

abbrev synS : ByteArray := { data := #[105, 110, 118, 97, 108, 105, 100, 32, 115, 121, 110, 116, 97, 120] }
abbrev rngS : ByteArray := { data := #[118, 97, 108, 117, 101, 32, 111, 117, 116, 32, 111, 102, 32, 114, 97, 110, 103, 101] }
/-- How many blocks the settled world has. -/
noncomputable def low : Nat := (World.holding Tryd.prog default ⟨#[], #[], []⟩).heap.size
/-- The settled world, the listed variables holding what their initialisers lay. -/
noncomputable def laidWorld (os : Os) : World :=
  let w0 := World.holding Tryd.prog os ⟨#[.cells #[.string synS] 87, .cells #[.string rngS] 87], #[], []⟩
  let put (h : Array Obj) (g : Nat) (cs : Array Value) : Array Obj := h.modify g fun
    | .cells _ t frozen => .cells cs t frozen
    | o => o
  let h1 := put w0.heap 1 #[.iface 85 (.pointer (some ⟨low, 0, none⟩))]
  let h2 := put h1 2 #[.iface 85 (.pointer (some ⟨low + 1, 0, none⟩))]
  let h3 := put h2 3 ((List.range 20).map fun i => Value.int .u64 ((10 ^ i : Nat) : Int)).toArray
  let h4 := put h3 4 (([0, 1, 28, 2, 29, 14, 24, 3, 30, 22, 20, 15, 25, 17, 4, 8, 31, 27, 13, 23, 21, 19, 16, 7, 26, 12, 18, 6, 11, 5, 10, 9] : List Int).map fun z => Value.int .u8 z).toArray
  let h5 := put h4 5 (([0, 1, 56, 2, 57, 49, 28, 3, 61, 58, 42, 50, 38, 29, 17, 4, 62, 47, 59, 36, 45, 43, 51, 22, 53, 39, 33, 30, 24, 18, 12, 5, 63, 55, 48, 27, 60, 41, 37, 16, 46, 35, 44, 21, 52, 32, 23, 11, 54, 26, 40, 15, 34, 20, 31, 10, 25, 14, 19, 9, 13, 8, 7, 6] : List Int).map fun z => Value.int .u8 z).toArray
  { w0 with heap := h5 }
theorem laidMet3 (os : Os) (args : Array Value) : laidMet Tryd.prog Rows.fnExactFormatIntRow.laid ((laidWorld os).forCall (fun _ _ => 0) ⟨#[], args, []⟩).memory :=
  laidMet_of_run' 8 (by kernel_rfl) (by kernel_rfl)
theorem laidMet5 (os : Os) (args : Array Value) : laidMet Tryd.prog Rows.fnExactParseUintRow.laid ((laidWorld os).forCall (fun _ _ => 0) ⟨#[], args, []⟩).memory :=
  laidMet_of_run' 8 (by kernel_rfl) (by kernel_rfl)
end Go.Proofs.YtmcdjppppnmomaaDoor
