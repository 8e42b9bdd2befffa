/- The instruction table as plain data: names, classes, fields, and where each field lies; no condition. -/
namespace Go.Proofs.YtdaildmoodfocaaDoor

structure Fd where
  kind : Int
  bits : Int
  shift : Int
  sg : Bool
  ext : Bool
  deriving DecidableEq
def fMode : Fd := ⟨1, 3, 0, false, false⟩
def fPred : Fd := ⟨2, 2, 0, false, false⟩
def fD : Fd := ⟨3, 5, 0, false, false⟩
def fDP : Fd := ⟨4, 2, 0, false, false⟩
def fS : Fd := ⟨5, 5, 0, false, false⟩
def fT : Fd := ⟨6, 5, 0, false, false⟩
def fN : Fd := ⟨7, 1, 0, false, false⟩
def fNew : Fd := ⟨8, 1, 0, false, false⟩
def fI14 : Fd := ⟨9, 14, 0, true, true⟩
def fI122 : Fd := ⟨9, 12, 2, true, true⟩
def fI121 : Fd := ⟨9, 12, 1, true, true⟩
def fI12 : Fd := ⟨9, 12, 0, true, true⟩
def fU5 : Fd := ⟨9, 5, 0, false, false⟩
def fR19 : Fd := ⟨10, 19, 2, true, true⟩
def fR24 : Fd := ⟨10, 24, 2, true, true⟩
def fR12 : Fd := ⟨10, 12, 2, true, true⟩
def fCount : Fd := ⟨11, 11, 0, false, false⟩
/-- The fields of an instruction, from the top down. -/
def fieldsL : List (List Fd) := [[],
  [],
  [fMode, fPred, fD, fS, fT],
  [fMode, fPred, fD, fS, fT],
  [fMode, fPred, fD, fS, fT],
  [fMode, fPred, fD, fS, fT],
  [fMode, fPred, fD, fS, fT],
  [fD, fS, fI14],
  [fMode, fPred, fD, fI14],
  [fMode, fPred, fD, fS],
  [fDP, fS, fT],
  [fDP, fS, fT],
  [fDP, fS, fT],
  [fDP, fS, fI14],
  [fD, fPred, fS, fT],
  [fD, fS, fU5],
  [fD, fS, fU5],
  [fD, fS, fU5],
  [fD, fS, fT],
  [fD, fS, fT],
  [fD, fS, fT],
  [fD, fS, fI122],
  [fD, fS, fI121],
  [fD, fS, fI12],
  [fS, fNew, fT, fI122],
  [fS, fNew, fT, fI121],
  [fS, fNew, fT, fI12],
  [fMode, fPred, fR19],
  [fMode, fPred, fS],
  [fR24],
  [fN, fR12, fCount],
  [fN, fR12, fS]]
def fieldsZ (op : Int) : List Fd := fieldsL.getD op.toNat []
def namesL : List (List UInt8) := [[],
  [110, 111, 112],
  [97, 100, 100],
  [115, 117, 98],
  [97, 110, 100],
  [111, 114],
  [120, 111, 114],
  [97, 100, 100, 105],
  [109, 111, 118, 105],
  [109, 111, 118],
  [99, 109, 112, 101, 113],
  [99, 109, 112, 103, 116],
  [99, 109, 112, 103, 116, 117],
  [99, 109, 112, 101, 113, 105],
  [109, 117, 120],
  [97, 115, 108],
  [108, 115, 114],
  [97, 115, 114],
  [109, 112, 121],
  [99, 109, 112, 121],
  [99, 109, 112, 121, 99],
  [108, 100, 119],
  [108, 100, 104],
  [108, 100, 98],
  [115, 116, 119],
  [115, 116, 104],
  [115, 116, 98],
  [106, 117, 109, 112],
  [106, 117, 109, 112, 114],
  [99, 97, 108, 108],
  [108, 111, 111, 112, 105],
  [108, 111, 111, 112, 114]]
def nameL (op : Int) : List UInt8 := namesL.getD op.toNat []
def nameZ (op : Int) : ByteArray := ⟨(nameL op).toArray⟩
def classL : List Int := [0, 1, 1, 1, 1, 1, 1, 1, 1, 1, 1, 1, 1, 1, 1, 2, 2, 2, 2, 2, 2, 3, 3, 3, 4, 4, 4, 5, 5, 5, 6, 6]
def classZ (op : Int) : Int := classL.getD op.toNat 0
def slotsL : List Int := [0, 15, 12, 3, 1, 12, 8]
def slotsZ (c : Int) : Int := slotsL.getD c.toNat 0
def isOp (op : Int) : Bool := decide (1 ≤ op) && decide (op ≤ 31)
/-- Where the field of a kind lies: the walk down from the top. -/
def atIn : List Fd → Int → Int → Option (Fd × Int)
  | [], _, _ => none
  | f :: r, low, k => if f.kind = k then some (f, low - f.bits) else atIn r (low - f.bits) k
def atZ (op k : Int) : Option (Fd × Int) := atIn (fieldsZ op) 24 k
def fZero : Fd := ⟨0, 0, 0, false, false⟩
/-- The first op of a name. -/
def byFrom (s : List UInt8) : Nat → Int → Int × Bool
  | 0, _ => (0, false)
  | n + 1, k => if nameL k = s then (k, true) else byFrom s n (k + 1)
def byZ (s : List UInt8) : Int × Bool := byFrom s 31 1
end Go.Proofs.YtdaildmoodfocaaDoor
