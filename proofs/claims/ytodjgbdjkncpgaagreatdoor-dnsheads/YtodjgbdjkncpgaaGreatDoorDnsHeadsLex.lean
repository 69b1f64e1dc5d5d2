/-
  The order of the one long region of pinfoldlaw5.DnsHeads: it may be walked in the order of the text. (Laid by program from the seat's own translation: the numbers are this seat's.)
-/
import Derived.Test.YtodjgbdjkncpgaaGreatDoorAwake5
import Derived.Deep.QuietTactic
import Derived.BigQuiet
namespace Go.Proofs.YtodjgbdjkncpgaaGreatDoor
set_option maxRecDepth 100000
namespace dnsHeads
open Go.ChangeShapes Go.WideShapes Go.ChangeAt Go.RowKit Go.Pin Go.PlainAid Go.ChangeMaps
/-- The region's operations. -/
def hops : List Oper :=
  [{ dst := some 35, op := Op.move (Operand.tmp 3), type := 9, pos := "more.go:39", after := #[], guard := none },
      { dst := some 36, op := Op.index 9 (Operand.tmp 35) (Operand.const (Value.int IntKind.i64 0)), type := 5,
        pos := "more.go:39", after := #[{ on := 0, ground := Ground.data }], guard := none },
      { dst := some 37, op := Op.convert 5 3 (Operand.tmp 36), type := 3, pos := "more.go:39",
        after := #[{ on := 1, ground := Ground.data }], guard := none },
      { dst := some 38, op := Op.binOp BinOp.shl 3 (Operand.tmp 37) (Operand.const (Value.int IntKind.u64 8)) 42,
        type := 3, pos := "more.go:39", after := #[{ on := 2, ground := Ground.data }], guard := none },
      { dst := some 39, op := Op.move (Operand.tmp 3), type := 9, pos := "more.go:39", after := #[], guard := none },
      { dst := some 40, op := Op.index 9 (Operand.tmp 39) (Operand.const (Value.int IntKind.i64 1)), type := 5,
        pos := "more.go:39", after := #[{ on := 4, ground := Ground.data }], guard := none },
      { dst := some 41, op := Op.convert 5 3 (Operand.tmp 40), type := 3, pos := "more.go:39",
        after := #[{ on := 5, ground := Ground.data }], guard := none },
      { dst := some 42, op := Op.binOp BinOp.or 3 (Operand.tmp 38) (Operand.tmp 41) 3, type := 3, pos := "more.go:39",
        after := #[{ on := 3, ground := Ground.data }, { on := 6, ground := Ground.data }], guard := none },
      { dst := some 43, op := Op.fieldAddr 25 (Operand.tmp 1) 0, type := 0, pos := "more.go:39", after := #[],
        guard := none },
      { dst := some 44, op := Op.load 3 (Operand.tmp 43), type := 3, pos := "more.go:39",
        after := #[{ on := 8, ground := Ground.data }], guard := none },
      { dst := some 45, op := Op.binOp BinOp.eql 3 (Operand.tmp 42) (Operand.tmp 44) 3, type := 4, pos := "more.go:39",
        after := #[{ on := 7, ground := Ground.data }, { on := 9, ground := Ground.data }], guard := none },
      { dst := some 46, op := Op.move (Operand.tmp 45), type := 4, pos := "more.go:39",
        after := #[{ on := 10, ground := Ground.data }], guard := none },
      { dst := some 47, op := Op.move (Operand.tmp 5), type := 3, pos := "more.go:39",
        after := #[{ on := 11, ground := Ground.guard }], guard := some (11, true) },
      { dst := some 48, op := Op.binOp BinOp.and 3 (Operand.tmp 47) (Operand.const (Value.int IntKind.i64 32768)) 3,
        type := 3, pos := "more.go:39",
        after := #[{ on := 12, ground := Ground.data }, { on := 11, ground := Ground.guard }],
        guard := some (11, true) },
      { dst := some 49, op := Op.binOp BinOp.neq 3 (Operand.tmp 48) (Operand.const (Value.int IntKind.i64 0)) 3,
        type := 4, pos := "more.go:39",
        after := #[{ on := 13, ground := Ground.data }, { on := 11, ground := Ground.guard }],
        guard := some (11, true) },
      { dst := some 50, op := Op.fieldAddr 25 (Operand.tmp 1) 1, type := 0, pos := "more.go:39",
        after := #[{ on := 11, ground := Ground.guard }], guard := some (11, true) },
      { dst := some 51, op := Op.load 4 (Operand.tmp 50), type := 4, pos := "more.go:39",
        after := #[{ on := 15, ground := Ground.data }, { on := 11, ground := Ground.guard }],
        guard := some (11, true) },
      { dst := some 52, op := Op.binOp BinOp.eql 4 (Operand.tmp 49) (Operand.tmp 51) 4, type := 4, pos := "more.go:39",
        after :=
          #[{ on := 14, ground := Ground.data }, { on := 16, ground := Ground.data },
            { on := 11, ground := Ground.guard }],
        guard := some (11, true) },
      { dst := some 53, op := Op.pick (Operand.tmp 46) (Operand.tmp 52) (Operand.const (Value.bool false)), type := 4,
        pos := "more.go:39", after := #[{ on := 11, ground := Ground.data }, { on := 17, ground := Ground.data }],
        guard := none },
      { dst := some 54, op := Op.move (Operand.tmp 53), type := 4, pos := "more.go:39",
        after := #[{ on := 18, ground := Ground.data }, { on := 11, ground := Ground.chain }], guard := none },
      { dst := some 55, op := Op.move (Operand.tmp 5), type := 3, pos := "more.go:39",
        after := #[{ on := 19, ground := Ground.guard }], guard := some (19, true) },
      { dst := some 56, op := Op.binOp BinOp.shr 3 (Operand.tmp 55) (Operand.const (Value.int IntKind.u64 11)) 42,
        type := 3, pos := "more.go:39",
        after := #[{ on := 20, ground := Ground.data }, { on := 19, ground := Ground.guard }],
        guard := some (19, true) },
      { dst := some 57, op := Op.binOp BinOp.and 3 (Operand.tmp 56) (Operand.const (Value.int IntKind.i64 15)) 3,
        type := 3, pos := "more.go:39",
        after := #[{ on := 21, ground := Ground.data }, { on := 19, ground := Ground.guard }],
        guard := some (19, true) },
      { dst := some 58, op := Op.fieldAddr 25 (Operand.tmp 1) 2, type := 0, pos := "more.go:39",
        after := #[{ on := 19, ground := Ground.guard }], guard := some (19, true) },
      { dst := some 59, op := Op.load 3 (Operand.tmp 58), type := 3, pos := "more.go:39",
        after := #[{ on := 23, ground := Ground.data }, { on := 19, ground := Ground.guard }],
        guard := some (19, true) },
      { dst := some 60, op := Op.binOp BinOp.eql 3 (Operand.tmp 57) (Operand.tmp 59) 3, type := 4, pos := "more.go:39",
        after :=
          #[{ on := 22, ground := Ground.data }, { on := 24, ground := Ground.data },
            { on := 19, ground := Ground.guard }],
        guard := some (19, true) },
      { dst := some 61, op := Op.pick (Operand.tmp 54) (Operand.tmp 60) (Operand.const (Value.bool false)), type := 4,
        pos := "more.go:39", after := #[{ on := 19, ground := Ground.data }, { on := 25, ground := Ground.data }],
        guard := none },
      { dst := some 62, op := Op.move (Operand.tmp 61), type := 4, pos := "more.go:39",
        after := #[{ on := 26, ground := Ground.data }, { on := 19, ground := Ground.chain }], guard := none },
      { dst := some 63, op := Op.move (Operand.tmp 5), type := 3, pos := "more.go:39",
        after := #[{ on := 27, ground := Ground.guard }], guard := some (27, true) },
      { dst := some 64, op := Op.binOp BinOp.and 3 (Operand.tmp 63) (Operand.const (Value.int IntKind.i64 1024)) 3,
        type := 3, pos := "more.go:39",
        after := #[{ on := 28, ground := Ground.data }, { on := 27, ground := Ground.guard }],
        guard := some (27, true) },
      { dst := some 65, op := Op.binOp BinOp.neq 3 (Operand.tmp 64) (Operand.const (Value.int IntKind.i64 0)) 3,
        type := 4, pos := "more.go:39",
        after := #[{ on := 29, ground := Ground.data }, { on := 27, ground := Ground.guard }],
        guard := some (27, true) },
      { dst := some 66, op := Op.fieldAddr 25 (Operand.tmp 1) 3, type := 0, pos := "more.go:39",
        after := #[{ on := 27, ground := Ground.guard }], guard := some (27, true) },
      { dst := some 67, op := Op.load 4 (Operand.tmp 66), type := 4, pos := "more.go:39",
        after := #[{ on := 31, ground := Ground.data }, { on := 27, ground := Ground.guard }],
        guard := some (27, true) },
      { dst := some 68, op := Op.binOp BinOp.eql 4 (Operand.tmp 65) (Operand.tmp 67) 4, type := 4, pos := "more.go:39",
        after :=
          #[{ on := 30, ground := Ground.data }, { on := 32, ground := Ground.data },
            { on := 27, ground := Ground.guard }],
        guard := some (27, true) },
      { dst := some 69, op := Op.pick (Operand.tmp 62) (Operand.tmp 68) (Operand.const (Value.bool false)), type := 4,
        pos := "more.go:39", after := #[{ on := 27, ground := Ground.data }, { on := 33, ground := Ground.data }],
        guard := none },
      { dst := some 70, op := Op.move (Operand.tmp 69), type := 4, pos := "more.go:39",
        after := #[{ on := 34, ground := Ground.data }, { on := 27, ground := Ground.chain }], guard := none },
      { dst := some 71, op := Op.move (Operand.tmp 5), type := 3, pos := "more.go:39",
        after := #[{ on := 35, ground := Ground.guard }], guard := some (35, true) },
      { dst := some 72, op := Op.binOp BinOp.and 3 (Operand.tmp 71) (Operand.const (Value.int IntKind.i64 512)) 3,
        type := 3, pos := "more.go:39",
        after := #[{ on := 36, ground := Ground.data }, { on := 35, ground := Ground.guard }],
        guard := some (35, true) },
      { dst := some 73, op := Op.binOp BinOp.neq 3 (Operand.tmp 72) (Operand.const (Value.int IntKind.i64 0)) 3,
        type := 4, pos := "more.go:39",
        after := #[{ on := 37, ground := Ground.data }, { on := 35, ground := Ground.guard }],
        guard := some (35, true) },
      { dst := some 74, op := Op.fieldAddr 25 (Operand.tmp 1) 4, type := 0, pos := "more.go:39",
        after := #[{ on := 35, ground := Ground.guard }], guard := some (35, true) },
      { dst := some 75, op := Op.load 4 (Operand.tmp 74), type := 4, pos := "more.go:39",
        after := #[{ on := 39, ground := Ground.data }, { on := 35, ground := Ground.guard }],
        guard := some (35, true) },
      { dst := some 76, op := Op.binOp BinOp.eql 4 (Operand.tmp 73) (Operand.tmp 75) 4, type := 4, pos := "more.go:39",
        after :=
          #[{ on := 38, ground := Ground.data }, { on := 40, ground := Ground.data },
            { on := 35, ground := Ground.guard }],
        guard := some (35, true) },
      { dst := some 77, op := Op.pick (Operand.tmp 70) (Operand.tmp 76) (Operand.const (Value.bool false)), type := 4,
        pos := "more.go:39", after := #[{ on := 35, ground := Ground.data }, { on := 41, ground := Ground.data }],
        guard := none },
      { dst := some 78, op := Op.move (Operand.tmp 77), type := 4, pos := "more.go:39",
        after := #[{ on := 42, ground := Ground.data }, { on := 35, ground := Ground.chain }], guard := none },
      { dst := some 79, op := Op.move (Operand.tmp 5), type := 3, pos := "more.go:39",
        after := #[{ on := 43, ground := Ground.guard }], guard := some (43, true) },
      { dst := some 80, op := Op.binOp BinOp.and 3 (Operand.tmp 79) (Operand.const (Value.int IntKind.i64 256)) 3,
        type := 3, pos := "more.go:39",
        after := #[{ on := 44, ground := Ground.data }, { on := 43, ground := Ground.guard }],
        guard := some (43, true) },
      { dst := some 81, op := Op.binOp BinOp.neq 3 (Operand.tmp 80) (Operand.const (Value.int IntKind.i64 0)) 3,
        type := 4, pos := "more.go:39",
        after := #[{ on := 45, ground := Ground.data }, { on := 43, ground := Ground.guard }],
        guard := some (43, true) },
      { dst := some 82, op := Op.fieldAddr 25 (Operand.tmp 1) 5, type := 0, pos := "more.go:39",
        after := #[{ on := 43, ground := Ground.guard }], guard := some (43, true) },
      { dst := some 83, op := Op.load 4 (Operand.tmp 82), type := 4, pos := "more.go:39",
        after := #[{ on := 47, ground := Ground.data }, { on := 43, ground := Ground.guard }],
        guard := some (43, true) },
      { dst := some 84, op := Op.binOp BinOp.eql 4 (Operand.tmp 81) (Operand.tmp 83) 4, type := 4, pos := "more.go:39",
        after :=
          #[{ on := 46, ground := Ground.data }, { on := 48, ground := Ground.data },
            { on := 43, ground := Ground.guard }],
        guard := some (43, true) },
      { dst := some 85, op := Op.pick (Operand.tmp 78) (Operand.tmp 84) (Operand.const (Value.bool false)), type := 4,
        pos := "more.go:39", after := #[{ on := 43, ground := Ground.data }, { on := 49, ground := Ground.data }],
        guard := none },
      { dst := some 86, op := Op.move (Operand.tmp 85), type := 4, pos := "more.go:39",
        after := #[{ on := 50, ground := Ground.data }, { on := 43, ground := Ground.chain }], guard := none },
      { dst := some 87, op := Op.move (Operand.tmp 5), type := 3, pos := "more.go:39",
        after := #[{ on := 51, ground := Ground.guard }], guard := some (51, true) },
      { dst := some 88, op := Op.binOp BinOp.and 3 (Operand.tmp 87) (Operand.const (Value.int IntKind.i64 240)) 3,
        type := 3, pos := "more.go:39",
        after := #[{ on := 52, ground := Ground.data }, { on := 51, ground := Ground.guard }],
        guard := some (51, true) },
      { dst := some 89, op := Op.binOp BinOp.eql 3 (Operand.tmp 88) (Operand.const (Value.int IntKind.i64 0)) 3,
        type := 4, pos := "more.go:39",
        after := #[{ on := 53, ground := Ground.data }, { on := 51, ground := Ground.guard }],
        guard := some (51, true) },
      { dst := some 90, op := Op.pick (Operand.tmp 86) (Operand.tmp 89) (Operand.const (Value.bool false)), type := 4,
        pos := "more.go:39", after := #[{ on := 51, ground := Ground.data }, { on := 54, ground := Ground.data }],
        guard := none },
      { dst := some 91, op := Op.move (Operand.tmp 90), type := 4, pos := "more.go:39",
        after := #[{ on := 55, ground := Ground.data }, { on := 51, ground := Ground.chain }], guard := none },
      { dst := some 92, op := Op.move (Operand.tmp 5), type := 3, pos := "more.go:39",
        after := #[{ on := 56, ground := Ground.guard }], guard := some (56, true) },
      { dst := some 93, op := Op.binOp BinOp.and 3 (Operand.tmp 92) (Operand.const (Value.int IntKind.i64 15)) 3,
        type := 3, pos := "more.go:39",
        after := #[{ on := 57, ground := Ground.data }, { on := 56, ground := Ground.guard }],
        guard := some (56, true) },
      { dst := some 94, op := Op.fieldAddr 25 (Operand.tmp 1) 6, type := 0, pos := "more.go:39",
        after := #[{ on := 56, ground := Ground.guard }], guard := some (56, true) },
      { dst := some 95, op := Op.load 3 (Operand.tmp 94), type := 3, pos := "more.go:39",
        after := #[{ on := 59, ground := Ground.data }, { on := 56, ground := Ground.guard }],
        guard := some (56, true) },
      { dst := some 96, op := Op.binOp BinOp.eql 3 (Operand.tmp 93) (Operand.tmp 95) 3, type := 4, pos := "more.go:39",
        after :=
          #[{ on := 58, ground := Ground.data }, { on := 60, ground := Ground.data },
            { on := 56, ground := Ground.guard }],
        guard := some (56, true) },
      { dst := some 97, op := Op.pick (Operand.tmp 91) (Operand.tmp 96) (Operand.const (Value.bool false)), type := 4,
        pos := "more.go:39", after := #[{ on := 56, ground := Ground.data }, { on := 61, ground := Ground.data }],
        guard := none },
      { dst := some 98, op := Op.move (Operand.tmp 97), type := 4, pos := "more.go:39",
        after := #[{ on := 62, ground := Ground.data }, { on := 56, ground := Ground.chain }], guard := none },
      { dst := some 99, op := Op.move (Operand.tmp 3), type := 9, pos := "more.go:39",
        after := #[{ on := 63, ground := Ground.guard }], guard := some (63, true) },
      { dst := some 100, op := Op.index 9 (Operand.tmp 99) (Operand.const (Value.int IntKind.i64 4)), type := 5,
        pos := "more.go:39", after := #[{ on := 64, ground := Ground.data }, { on := 63, ground := Ground.guard }],
        guard := some (63, true) },
      { dst := some 101, op := Op.convert 5 3 (Operand.tmp 100), type := 3, pos := "more.go:39",
        after := #[{ on := 65, ground := Ground.data }, { on := 63, ground := Ground.guard }],
        guard := some (63, true) },
      { dst := some 102, op := Op.binOp BinOp.shl 3 (Operand.tmp 101) (Operand.const (Value.int IntKind.u64 8)) 42,
        type := 3, pos := "more.go:39",
        after := #[{ on := 66, ground := Ground.data }, { on := 63, ground := Ground.guard }],
        guard := some (63, true) },
      { dst := some 103, op := Op.move (Operand.tmp 3), type := 9, pos := "more.go:39",
        after := #[{ on := 63, ground := Ground.guard }], guard := some (63, true) },
      { dst := some 104, op := Op.index 9 (Operand.tmp 103) (Operand.const (Value.int IntKind.i64 5)), type := 5,
        pos := "more.go:39", after := #[{ on := 68, ground := Ground.data }, { on := 63, ground := Ground.guard }],
        guard := some (63, true) },
      { dst := some 105, op := Op.convert 5 3 (Operand.tmp 104), type := 3, pos := "more.go:39",
        after := #[{ on := 69, ground := Ground.data }, { on := 63, ground := Ground.guard }],
        guard := some (63, true) },
      { dst := some 106, op := Op.binOp BinOp.or 3 (Operand.tmp 102) (Operand.tmp 105) 3, type := 3,
        pos := "more.go:39",
        after :=
          #[{ on := 67, ground := Ground.data }, { on := 70, ground := Ground.data },
            { on := 63, ground := Ground.guard }],
        guard := some (63, true) },
      { dst := some 107, op := Op.fieldAddr 25 (Operand.tmp 1) 7, type := 0, pos := "more.go:39",
        after := #[{ on := 63, ground := Ground.guard }], guard := some (63, true) },
      { dst := some 108, op := Op.load 22 (Operand.tmp 107), type := 22, pos := "more.go:39",
        after := #[{ on := 72, ground := Ground.data }, { on := 63, ground := Ground.guard }],
        guard := some (63, true) },
      { dst := some 109,
        op := Op.call { callee := Callee.builtin Builtin.len, args := #[Operand.tmp 108], argTypes := #[22] },
        type := 3, pos := "more.go:39",
        after := #[{ on := 73, ground := Ground.data }, { on := 63, ground := Ground.guard }],
        guard := some (63, true) },
      { dst := some 110, op := Op.binOp BinOp.eql 3 (Operand.tmp 106) (Operand.tmp 109) 3, type := 4,
        pos := "more.go:39",
        after :=
          #[{ on := 71, ground := Ground.data }, { on := 74, ground := Ground.data },
            { on := 63, ground := Ground.guard }],
        guard := some (63, true) },
      { dst := some 111, op := Op.pick (Operand.tmp 98) (Operand.tmp 110) (Operand.const (Value.bool false)), type := 4,
        pos := "more.go:39", after := #[{ on := 63, ground := Ground.data }, { on := 75, ground := Ground.data }],
        guard := none },
      { dst := some 112, op := Op.move (Operand.tmp 111), type := 4, pos := "more.go:39",
        after := #[{ on := 76, ground := Ground.data }, { on := 63, ground := Ground.chain }], guard := none },
      { dst := some 113, op := Op.move (Operand.tmp 3), type := 9, pos := "more.go:39",
        after := #[{ on := 77, ground := Ground.guard }], guard := some (77, true) },
      { dst := some 114, op := Op.index 9 (Operand.tmp 113) (Operand.const (Value.int IntKind.i64 6)), type := 5,
        pos := "more.go:39", after := #[{ on := 78, ground := Ground.data }, { on := 77, ground := Ground.guard }],
        guard := some (77, true) },
      { dst := some 115, op := Op.convert 5 3 (Operand.tmp 114), type := 3, pos := "more.go:39",
        after := #[{ on := 79, ground := Ground.data }, { on := 77, ground := Ground.guard }],
        guard := some (77, true) },
      { dst := some 116, op := Op.binOp BinOp.shl 3 (Operand.tmp 115) (Operand.const (Value.int IntKind.u64 8)) 42,
        type := 3, pos := "more.go:39",
        after := #[{ on := 80, ground := Ground.data }, { on := 77, ground := Ground.guard }],
        guard := some (77, true) },
      { dst := some 117, op := Op.move (Operand.tmp 3), type := 9, pos := "more.go:39",
        after := #[{ on := 77, ground := Ground.guard }], guard := some (77, true) },
      { dst := some 118, op := Op.index 9 (Operand.tmp 117) (Operand.const (Value.int IntKind.i64 7)), type := 5,
        pos := "more.go:39", after := #[{ on := 82, ground := Ground.data }, { on := 77, ground := Ground.guard }],
        guard := some (77, true) },
      { dst := some 119, op := Op.convert 5 3 (Operand.tmp 118), type := 3, pos := "more.go:39",
        after := #[{ on := 83, ground := Ground.data }, { on := 77, ground := Ground.guard }],
        guard := some (77, true) },
      { dst := some 120, op := Op.binOp BinOp.or 3 (Operand.tmp 116) (Operand.tmp 119) 3, type := 3,
        pos := "more.go:39",
        after :=
          #[{ on := 81, ground := Ground.data }, { on := 84, ground := Ground.data },
            { on := 77, ground := Ground.guard }],
        guard := some (77, true) },
      { dst := some 121, op := Op.fieldAddr 25 (Operand.tmp 1) 8, type := 0, pos := "more.go:39",
        after := #[{ on := 77, ground := Ground.guard }], guard := some (77, true) },
      { dst := some 122, op := Op.load 23 (Operand.tmp 121), type := 23, pos := "more.go:39",
        after := #[{ on := 86, ground := Ground.data }, { on := 77, ground := Ground.guard }],
        guard := some (77, true) },
      { dst := some 123,
        op := Op.call { callee := Callee.builtin Builtin.len, args := #[Operand.tmp 122], argTypes := #[23] },
        type := 3, pos := "more.go:39",
        after := #[{ on := 87, ground := Ground.data }, { on := 77, ground := Ground.guard }],
        guard := some (77, true) },
      { dst := some 124, op := Op.binOp BinOp.eql 3 (Operand.tmp 120) (Operand.tmp 123) 3, type := 4,
        pos := "more.go:39",
        after :=
          #[{ on := 85, ground := Ground.data }, { on := 88, ground := Ground.data },
            { on := 77, ground := Ground.guard }],
        guard := some (77, true) },
      { dst := some 125, op := Op.pick (Operand.tmp 112) (Operand.tmp 124) (Operand.const (Value.bool false)),
        type := 4, pos := "more.go:39",
        after := #[{ on := 77, ground := Ground.data }, { on := 89, ground := Ground.data }], guard := none },
      { dst := some 126, op := Op.move (Operand.tmp 125), type := 4, pos := "more.go:39",
        after := #[{ on := 90, ground := Ground.data }, { on := 77, ground := Ground.chain }], guard := none },
      { dst := some 127, op := Op.move (Operand.tmp 3), type := 9, pos := "more.go:39",
        after := #[{ on := 91, ground := Ground.guard }], guard := some (91, true) },
      { dst := some 128, op := Op.index 9 (Operand.tmp 127) (Operand.const (Value.int IntKind.i64 8)), type := 5,
        pos := "more.go:39", after := #[{ on := 92, ground := Ground.data }, { on := 91, ground := Ground.guard }],
        guard := some (91, true) },
      { dst := some 129, op := Op.convert 5 3 (Operand.tmp 128), type := 3, pos := "more.go:39",
        after := #[{ on := 93, ground := Ground.data }, { on := 91, ground := Ground.guard }],
        guard := some (91, true) },
      { dst := some 130, op := Op.binOp BinOp.shl 3 (Operand.tmp 129) (Operand.const (Value.int IntKind.u64 8)) 42,
        type := 3, pos := "more.go:39",
        after := #[{ on := 94, ground := Ground.data }, { on := 91, ground := Ground.guard }],
        guard := some (91, true) },
      { dst := some 131, op := Op.move (Operand.tmp 3), type := 9, pos := "more.go:39",
        after := #[{ on := 91, ground := Ground.guard }], guard := some (91, true) },
      { dst := some 132, op := Op.index 9 (Operand.tmp 131) (Operand.const (Value.int IntKind.i64 9)), type := 5,
        pos := "more.go:39", after := #[{ on := 96, ground := Ground.data }, { on := 91, ground := Ground.guard }],
        guard := some (91, true) },
      { dst := some 133, op := Op.convert 5 3 (Operand.tmp 132), type := 3, pos := "more.go:39",
        after := #[{ on := 97, ground := Ground.data }, { on := 91, ground := Ground.guard }],
        guard := some (91, true) },
      { dst := some 134, op := Op.binOp BinOp.or 3 (Operand.tmp 130) (Operand.tmp 133) 3, type := 3,
        pos := "more.go:39",
        after :=
          #[{ on := 95, ground := Ground.data }, { on := 98, ground := Ground.data },
            { on := 91, ground := Ground.guard }],
        guard := some (91, true) },
      { dst := some 135, op := Op.fieldAddr 25 (Operand.tmp 1) 9, type := 0, pos := "more.go:39",
        after := #[{ on := 91, ground := Ground.guard }], guard := some (91, true) },
      { dst := some 136, op := Op.load 23 (Operand.tmp 135), type := 23, pos := "more.go:39",
        after := #[{ on := 100, ground := Ground.data }, { on := 91, ground := Ground.guard }],
        guard := some (91, true) },
      { dst := some 137,
        op := Op.call { callee := Callee.builtin Builtin.len, args := #[Operand.tmp 136], argTypes := #[23] },
        type := 3, pos := "more.go:39",
        after := #[{ on := 101, ground := Ground.data }, { on := 91, ground := Ground.guard }],
        guard := some (91, true) },
      { dst := some 138, op := Op.binOp BinOp.eql 3 (Operand.tmp 134) (Operand.tmp 137) 3, type := 4,
        pos := "more.go:39",
        after :=
          #[{ on := 99, ground := Ground.data }, { on := 102, ground := Ground.data },
            { on := 91, ground := Ground.guard }],
        guard := some (91, true) },
      { dst := some 139, op := Op.pick (Operand.tmp 126) (Operand.tmp 138) (Operand.const (Value.bool false)),
        type := 4, pos := "more.go:39",
        after := #[{ on := 91, ground := Ground.data }, { on := 103, ground := Ground.data }], guard := none },
      { dst := some 140, op := Op.move (Operand.tmp 139), type := 4, pos := "more.go:39",
        after := #[{ on := 104, ground := Ground.data }, { on := 91, ground := Ground.chain }], guard := none },
      { dst := some 141, op := Op.move (Operand.tmp 3), type := 9, pos := "more.go:39",
        after := #[{ on := 105, ground := Ground.guard }], guard := some (105, true) },
      { dst := some 142, op := Op.index 9 (Operand.tmp 141) (Operand.const (Value.int IntKind.i64 10)), type := 5,
        pos := "more.go:39", after := #[{ on := 106, ground := Ground.data }, { on := 105, ground := Ground.guard }],
        guard := some (105, true) },
      { dst := some 143, op := Op.convert 5 3 (Operand.tmp 142), type := 3, pos := "more.go:39",
        after := #[{ on := 107, ground := Ground.data }, { on := 105, ground := Ground.guard }],
        guard := some (105, true) },
      { dst := some 144, op := Op.binOp BinOp.shl 3 (Operand.tmp 143) (Operand.const (Value.int IntKind.u64 8)) 42,
        type := 3, pos := "more.go:39",
        after := #[{ on := 108, ground := Ground.data }, { on := 105, ground := Ground.guard }],
        guard := some (105, true) },
      { dst := some 145, op := Op.move (Operand.tmp 3), type := 9, pos := "more.go:39",
        after := #[{ on := 105, ground := Ground.guard }], guard := some (105, true) },
      { dst := some 146, op := Op.index 9 (Operand.tmp 145) (Operand.const (Value.int IntKind.i64 11)), type := 5,
        pos := "more.go:39", after := #[{ on := 110, ground := Ground.data }, { on := 105, ground := Ground.guard }],
        guard := some (105, true) },
      { dst := some 147, op := Op.convert 5 3 (Operand.tmp 146), type := 3, pos := "more.go:39",
        after := #[{ on := 111, ground := Ground.data }, { on := 105, ground := Ground.guard }],
        guard := some (105, true) },
      { dst := some 148, op := Op.binOp BinOp.or 3 (Operand.tmp 144) (Operand.tmp 147) 3, type := 3,
        pos := "more.go:39",
        after :=
          #[{ on := 109, ground := Ground.data }, { on := 112, ground := Ground.data },
            { on := 105, ground := Ground.guard }],
        guard := some (105, true) },
      { dst := some 149, op := Op.fieldAddr 25 (Operand.tmp 1) 10, type := 0, pos := "more.go:39",
        after := #[{ on := 105, ground := Ground.guard }], guard := some (105, true) },
      { dst := some 150, op := Op.load 23 (Operand.tmp 149), type := 23, pos := "more.go:39",
        after := #[{ on := 114, ground := Ground.data }, { on := 105, ground := Ground.guard }],
        guard := some (105, true) },
      { dst := some 151,
        op := Op.call { callee := Callee.builtin Builtin.len, args := #[Operand.tmp 150], argTypes := #[23] },
        type := 3, pos := "more.go:39",
        after := #[{ on := 115, ground := Ground.data }, { on := 105, ground := Ground.guard }],
        guard := some (105, true) },
      { dst := some 152, op := Op.move (Operand.tmp 6), type := 3, pos := "more.go:39",
        after := #[{ on := 105, ground := Ground.guard }], guard := some (105, true) },
      { dst := some 153, op := Op.binOp BinOp.add 3 (Operand.tmp 151) (Operand.tmp 152) 3, type := 3,
        pos := "more.go:39",
        after :=
          #[{ on := 116, ground := Ground.data }, { on := 117, ground := Ground.data },
            { on := 105, ground := Ground.guard }],
        guard := some (105, true) },
      { dst := some 154, op := Op.binOp BinOp.eql 3 (Operand.tmp 148) (Operand.tmp 153) 3, type := 4,
        pos := "more.go:39",
        after :=
          #[{ on := 113, ground := Ground.data }, { on := 118, ground := Ground.data },
            { on := 105, ground := Ground.guard }],
        guard := some (105, true) },
      { dst := some 155, op := Op.pick (Operand.tmp 140) (Operand.tmp 154) (Operand.const (Value.bool false)),
        type := 4, pos := "more.go:39",
        after := #[{ on := 105, ground := Ground.data }, { on := 119, ground := Ground.data }], guard := none },
      { dst := some 2, op := Op.assign (Operand.tmp 155), type := 4, pos := "more.go:39",
        after :=
          #[{ on := 120, ground := Ground.data }, { on := 105, ground := Ground.chain },
            { on := 0, ground := Ground.phase }, { on := 1, ground := Ground.phase },
            { on := 2, ground := Ground.phase }, { on := 3, ground := Ground.phase },
            { on := 4, ground := Ground.phase }, { on := 5, ground := Ground.phase },
            { on := 6, ground := Ground.phase }, { on := 7, ground := Ground.phase },
            { on := 8, ground := Ground.phase }, { on := 9, ground := Ground.phase },
            { on := 10, ground := Ground.phase }, { on := 11, ground := Ground.phase },
            { on := 12, ground := Ground.phase }, { on := 13, ground := Ground.phase },
            { on := 14, ground := Ground.phase }, { on := 15, ground := Ground.phase },
            { on := 16, ground := Ground.phase }, { on := 17, ground := Ground.phase },
            { on := 18, ground := Ground.phase }, { on := 19, ground := Ground.phase },
            { on := 20, ground := Ground.phase }, { on := 21, ground := Ground.phase },
            { on := 22, ground := Ground.phase }, { on := 23, ground := Ground.phase },
            { on := 24, ground := Ground.phase }, { on := 25, ground := Ground.phase },
            { on := 26, ground := Ground.phase }, { on := 27, ground := Ground.phase },
            { on := 28, ground := Ground.phase }, { on := 29, ground := Ground.phase },
            { on := 30, ground := Ground.phase }, { on := 31, ground := Ground.phase },
            { on := 32, ground := Ground.phase }, { on := 33, ground := Ground.phase },
            { on := 34, ground := Ground.phase }, { on := 35, ground := Ground.phase },
            { on := 36, ground := Ground.phase }, { on := 37, ground := Ground.phase },
            { on := 38, ground := Ground.phase }, { on := 39, ground := Ground.phase },
            { on := 40, ground := Ground.phase }, { on := 41, ground := Ground.phase },
            { on := 42, ground := Ground.phase }, { on := 43, ground := Ground.phase },
            { on := 44, ground := Ground.phase }, { on := 45, ground := Ground.phase },
            { on := 46, ground := Ground.phase }, { on := 47, ground := Ground.phase },
            { on := 48, ground := Ground.phase }, { on := 49, ground := Ground.phase },
            { on := 50, ground := Ground.phase }, { on := 51, ground := Ground.phase },
            { on := 52, ground := Ground.phase }, { on := 53, ground := Ground.phase },
            { on := 54, ground := Ground.phase }, { on := 55, ground := Ground.phase },
            { on := 56, ground := Ground.phase }, { on := 57, ground := Ground.phase },
            { on := 58, ground := Ground.phase }, { on := 59, ground := Ground.phase },
            { on := 60, ground := Ground.phase }, { on := 61, ground := Ground.phase },
            { on := 62, ground := Ground.phase }, { on := 63, ground := Ground.phase },
            { on := 64, ground := Ground.phase }, { on := 65, ground := Ground.phase },
            { on := 66, ground := Ground.phase }, { on := 67, ground := Ground.phase },
            { on := 68, ground := Ground.phase }, { on := 69, ground := Ground.phase },
            { on := 70, ground := Ground.phase }, { on := 71, ground := Ground.phase },
            { on := 72, ground := Ground.phase }, { on := 73, ground := Ground.phase },
            { on := 74, ground := Ground.phase }, { on := 75, ground := Ground.phase },
            { on := 76, ground := Ground.phase }, { on := 77, ground := Ground.phase },
            { on := 78, ground := Ground.phase }, { on := 79, ground := Ground.phase },
            { on := 80, ground := Ground.phase }, { on := 81, ground := Ground.phase },
            { on := 82, ground := Ground.phase }, { on := 83, ground := Ground.phase },
            { on := 84, ground := Ground.phase }, { on := 85, ground := Ground.phase },
            { on := 86, ground := Ground.phase }, { on := 87, ground := Ground.phase },
            { on := 88, ground := Ground.phase }, { on := 89, ground := Ground.phase },
            { on := 90, ground := Ground.phase }, { on := 91, ground := Ground.phase },
            { on := 92, ground := Ground.phase }, { on := 93, ground := Ground.phase },
            { on := 94, ground := Ground.phase }, { on := 95, ground := Ground.phase },
            { on := 96, ground := Ground.phase }, { on := 97, ground := Ground.phase },
            { on := 98, ground := Ground.phase }, { on := 99, ground := Ground.phase },
            { on := 100, ground := Ground.phase }, { on := 101, ground := Ground.phase },
            { on := 102, ground := Ground.phase }, { on := 103, ground := Ground.phase },
            { on := 104, ground := Ground.phase }, { on := 105, ground := Ground.phase },
            { on := 106, ground := Ground.phase }, { on := 107, ground := Ground.phase },
            { on := 108, ground := Ground.phase }, { on := 109, ground := Ground.phase },
            { on := 110, ground := Ground.phase }, { on := 111, ground := Ground.phase },
            { on := 112, ground := Ground.phase }, { on := 113, ground := Ground.phase },
            { on := 114, ground := Ground.phase }, { on := 115, ground := Ground.phase },
            { on := 116, ground := Ground.phase }, { on := 117, ground := Ground.phase },
            { on := 118, ground := Ground.phase }, { on := 119, ground := Ground.phase },
            { on := 120, ground := Ground.phase }],
        guard := none }]
/-- The first k are listed. -/
def lb (k : Nat) : Array Bool := (List.replicate k true ++ List.replicate (122 - k) false).toArray
theorem lex_step {f k : Nat} {l l' : Array Bool} (h1 : ((Region.ready .any hops.toArray l).contains k && Region.free .any hops.toArray l k) = true) (hl : l.setIfInBounds k true = l') (h2 : Region.lexFrom .any hops.toArray f (k + 1) l' = true) : Region.lexFrom .any hops.toArray (f + 1) k l = true := by
  simp only [Region.lexFrom]
  rw [h1, hl, h2]
  rfl
theorem lex122 : Region.lexFrom .any hops.toArray 0 122 (lb 122) = true := by kernel_rfl
theorem lex121 : Region.lexFrom .any hops.toArray 1 121 (lb 121) = true := lex_step (by kernel_rfl) (by kernel_rfl) lex122
theorem lex120 : Region.lexFrom .any hops.toArray 2 120 (lb 120) = true := lex_step (by kernel_rfl) (by kernel_rfl) lex121
theorem lex119 : Region.lexFrom .any hops.toArray 3 119 (lb 119) = true := lex_step (by kernel_rfl) (by kernel_rfl) lex120
theorem lex118 : Region.lexFrom .any hops.toArray 4 118 (lb 118) = true := lex_step (by kernel_rfl) (by kernel_rfl) lex119
theorem lex117 : Region.lexFrom .any hops.toArray 5 117 (lb 117) = true := lex_step (by kernel_rfl) (by kernel_rfl) lex118
theorem lex116 : Region.lexFrom .any hops.toArray 6 116 (lb 116) = true := lex_step (by kernel_rfl) (by kernel_rfl) lex117
theorem lex115 : Region.lexFrom .any hops.toArray 7 115 (lb 115) = true := lex_step (by kernel_rfl) (by kernel_rfl) lex116
theorem lex114 : Region.lexFrom .any hops.toArray 8 114 (lb 114) = true := lex_step (by kernel_rfl) (by kernel_rfl) lex115
theorem lex113 : Region.lexFrom .any hops.toArray 9 113 (lb 113) = true := lex_step (by kernel_rfl) (by kernel_rfl) lex114
theorem lex112 : Region.lexFrom .any hops.toArray 10 112 (lb 112) = true := lex_step (by kernel_rfl) (by kernel_rfl) lex113
theorem lex111 : Region.lexFrom .any hops.toArray 11 111 (lb 111) = true := lex_step (by kernel_rfl) (by kernel_rfl) lex112
theorem lex110 : Region.lexFrom .any hops.toArray 12 110 (lb 110) = true := lex_step (by kernel_rfl) (by kernel_rfl) lex111
theorem lex109 : Region.lexFrom .any hops.toArray 13 109 (lb 109) = true := lex_step (by kernel_rfl) (by kernel_rfl) lex110
theorem lex108 : Region.lexFrom .any hops.toArray 14 108 (lb 108) = true := lex_step (by kernel_rfl) (by kernel_rfl) lex109
theorem lex107 : Region.lexFrom .any hops.toArray 15 107 (lb 107) = true := lex_step (by kernel_rfl) (by kernel_rfl) lex108
theorem lex106 : Region.lexFrom .any hops.toArray 16 106 (lb 106) = true := lex_step (by kernel_rfl) (by kernel_rfl) lex107
theorem lex105 : Region.lexFrom .any hops.toArray 17 105 (lb 105) = true := lex_step (by kernel_rfl) (by kernel_rfl) lex106
theorem lex104 : Region.lexFrom .any hops.toArray 18 104 (lb 104) = true := lex_step (by kernel_rfl) (by kernel_rfl) lex105
theorem lex103 : Region.lexFrom .any hops.toArray 19 103 (lb 103) = true := lex_step (by kernel_rfl) (by kernel_rfl) lex104
theorem lex102 : Region.lexFrom .any hops.toArray 20 102 (lb 102) = true := lex_step (by kernel_rfl) (by kernel_rfl) lex103
theorem lex101 : Region.lexFrom .any hops.toArray 21 101 (lb 101) = true := lex_step (by kernel_rfl) (by kernel_rfl) lex102
theorem lex100 : Region.lexFrom .any hops.toArray 22 100 (lb 100) = true := lex_step (by kernel_rfl) (by kernel_rfl) lex101
theorem lex99 : Region.lexFrom .any hops.toArray 23 99 (lb 99) = true := lex_step (by kernel_rfl) (by kernel_rfl) lex100
theorem lex98 : Region.lexFrom .any hops.toArray 24 98 (lb 98) = true := lex_step (by kernel_rfl) (by kernel_rfl) lex99
theorem lex97 : Region.lexFrom .any hops.toArray 25 97 (lb 97) = true := lex_step (by kernel_rfl) (by kernel_rfl) lex98
theorem lex96 : Region.lexFrom .any hops.toArray 26 96 (lb 96) = true := lex_step (by kernel_rfl) (by kernel_rfl) lex97
theorem lex95 : Region.lexFrom .any hops.toArray 27 95 (lb 95) = true := lex_step (by kernel_rfl) (by kernel_rfl) lex96
theorem lex94 : Region.lexFrom .any hops.toArray 28 94 (lb 94) = true := lex_step (by kernel_rfl) (by kernel_rfl) lex95
theorem lex93 : Region.lexFrom .any hops.toArray 29 93 (lb 93) = true := lex_step (by kernel_rfl) (by kernel_rfl) lex94
theorem lex92 : Region.lexFrom .any hops.toArray 30 92 (lb 92) = true := lex_step (by kernel_rfl) (by kernel_rfl) lex93
theorem lex91 : Region.lexFrom .any hops.toArray 31 91 (lb 91) = true := lex_step (by kernel_rfl) (by kernel_rfl) lex92
theorem lex90 : Region.lexFrom .any hops.toArray 32 90 (lb 90) = true := lex_step (by kernel_rfl) (by kernel_rfl) lex91
theorem lex89 : Region.lexFrom .any hops.toArray 33 89 (lb 89) = true := lex_step (by kernel_rfl) (by kernel_rfl) lex90
theorem lex88 : Region.lexFrom .any hops.toArray 34 88 (lb 88) = true := lex_step (by kernel_rfl) (by kernel_rfl) lex89
theorem lex87 : Region.lexFrom .any hops.toArray 35 87 (lb 87) = true := lex_step (by kernel_rfl) (by kernel_rfl) lex88
theorem lex86 : Region.lexFrom .any hops.toArray 36 86 (lb 86) = true := lex_step (by kernel_rfl) (by kernel_rfl) lex87
theorem lex85 : Region.lexFrom .any hops.toArray 37 85 (lb 85) = true := lex_step (by kernel_rfl) (by kernel_rfl) lex86
theorem lex84 : Region.lexFrom .any hops.toArray 38 84 (lb 84) = true := lex_step (by kernel_rfl) (by kernel_rfl) lex85
theorem lex83 : Region.lexFrom .any hops.toArray 39 83 (lb 83) = true := lex_step (by kernel_rfl) (by kernel_rfl) lex84
theorem lex82 : Region.lexFrom .any hops.toArray 40 82 (lb 82) = true := lex_step (by kernel_rfl) (by kernel_rfl) lex83
theorem lex81 : Region.lexFrom .any hops.toArray 41 81 (lb 81) = true := lex_step (by kernel_rfl) (by kernel_rfl) lex82
theorem lex80 : Region.lexFrom .any hops.toArray 42 80 (lb 80) = true := lex_step (by kernel_rfl) (by kernel_rfl) lex81
theorem lex79 : Region.lexFrom .any hops.toArray 43 79 (lb 79) = true := lex_step (by kernel_rfl) (by kernel_rfl) lex80
theorem lex78 : Region.lexFrom .any hops.toArray 44 78 (lb 78) = true := lex_step (by kernel_rfl) (by kernel_rfl) lex79
theorem lex77 : Region.lexFrom .any hops.toArray 45 77 (lb 77) = true := lex_step (by kernel_rfl) (by kernel_rfl) lex78
theorem lex76 : Region.lexFrom .any hops.toArray 46 76 (lb 76) = true := lex_step (by kernel_rfl) (by kernel_rfl) lex77
theorem lex75 : Region.lexFrom .any hops.toArray 47 75 (lb 75) = true := lex_step (by kernel_rfl) (by kernel_rfl) lex76
theorem lex74 : Region.lexFrom .any hops.toArray 48 74 (lb 74) = true := lex_step (by kernel_rfl) (by kernel_rfl) lex75
theorem lex73 : Region.lexFrom .any hops.toArray 49 73 (lb 73) = true := lex_step (by kernel_rfl) (by kernel_rfl) lex74
theorem lex72 : Region.lexFrom .any hops.toArray 50 72 (lb 72) = true := lex_step (by kernel_rfl) (by kernel_rfl) lex73
theorem lex71 : Region.lexFrom .any hops.toArray 51 71 (lb 71) = true := lex_step (by kernel_rfl) (by kernel_rfl) lex72
theorem lex70 : Region.lexFrom .any hops.toArray 52 70 (lb 70) = true := lex_step (by kernel_rfl) (by kernel_rfl) lex71
theorem lex69 : Region.lexFrom .any hops.toArray 53 69 (lb 69) = true := lex_step (by kernel_rfl) (by kernel_rfl) lex70
theorem lex68 : Region.lexFrom .any hops.toArray 54 68 (lb 68) = true := lex_step (by kernel_rfl) (by kernel_rfl) lex69
theorem lex67 : Region.lexFrom .any hops.toArray 55 67 (lb 67) = true := lex_step (by kernel_rfl) (by kernel_rfl) lex68
theorem lex66 : Region.lexFrom .any hops.toArray 56 66 (lb 66) = true := lex_step (by kernel_rfl) (by kernel_rfl) lex67
theorem lex65 : Region.lexFrom .any hops.toArray 57 65 (lb 65) = true := lex_step (by kernel_rfl) (by kernel_rfl) lex66
theorem lex64 : Region.lexFrom .any hops.toArray 58 64 (lb 64) = true := lex_step (by kernel_rfl) (by kernel_rfl) lex65
theorem lex63 : Region.lexFrom .any hops.toArray 59 63 (lb 63) = true := lex_step (by kernel_rfl) (by kernel_rfl) lex64
theorem lex62 : Region.lexFrom .any hops.toArray 60 62 (lb 62) = true := lex_step (by kernel_rfl) (by kernel_rfl) lex63
theorem lex61 : Region.lexFrom .any hops.toArray 61 61 (lb 61) = true := lex_step (by kernel_rfl) (by kernel_rfl) lex62
theorem lex60 : Region.lexFrom .any hops.toArray 62 60 (lb 60) = true := lex_step (by kernel_rfl) (by kernel_rfl) lex61
theorem lex59 : Region.lexFrom .any hops.toArray 63 59 (lb 59) = true := lex_step (by kernel_rfl) (by kernel_rfl) lex60
theorem lex58 : Region.lexFrom .any hops.toArray 64 58 (lb 58) = true := lex_step (by kernel_rfl) (by kernel_rfl) lex59
theorem lex57 : Region.lexFrom .any hops.toArray 65 57 (lb 57) = true := lex_step (by kernel_rfl) (by kernel_rfl) lex58
theorem lex56 : Region.lexFrom .any hops.toArray 66 56 (lb 56) = true := lex_step (by kernel_rfl) (by kernel_rfl) lex57
theorem lex55 : Region.lexFrom .any hops.toArray 67 55 (lb 55) = true := lex_step (by kernel_rfl) (by kernel_rfl) lex56
theorem lex54 : Region.lexFrom .any hops.toArray 68 54 (lb 54) = true := lex_step (by kernel_rfl) (by kernel_rfl) lex55
theorem lex53 : Region.lexFrom .any hops.toArray 69 53 (lb 53) = true := lex_step (by kernel_rfl) (by kernel_rfl) lex54
theorem lex52 : Region.lexFrom .any hops.toArray 70 52 (lb 52) = true := lex_step (by kernel_rfl) (by kernel_rfl) lex53
theorem lex51 : Region.lexFrom .any hops.toArray 71 51 (lb 51) = true := lex_step (by kernel_rfl) (by kernel_rfl) lex52
theorem lex50 : Region.lexFrom .any hops.toArray 72 50 (lb 50) = true := lex_step (by kernel_rfl) (by kernel_rfl) lex51
theorem lex49 : Region.lexFrom .any hops.toArray 73 49 (lb 49) = true := lex_step (by kernel_rfl) (by kernel_rfl) lex50
theorem lex48 : Region.lexFrom .any hops.toArray 74 48 (lb 48) = true := lex_step (by kernel_rfl) (by kernel_rfl) lex49
theorem lex47 : Region.lexFrom .any hops.toArray 75 47 (lb 47) = true := lex_step (by kernel_rfl) (by kernel_rfl) lex48
theorem lex46 : Region.lexFrom .any hops.toArray 76 46 (lb 46) = true := lex_step (by kernel_rfl) (by kernel_rfl) lex47
theorem lex45 : Region.lexFrom .any hops.toArray 77 45 (lb 45) = true := lex_step (by kernel_rfl) (by kernel_rfl) lex46
theorem lex44 : Region.lexFrom .any hops.toArray 78 44 (lb 44) = true := lex_step (by kernel_rfl) (by kernel_rfl) lex45
theorem lex43 : Region.lexFrom .any hops.toArray 79 43 (lb 43) = true := lex_step (by kernel_rfl) (by kernel_rfl) lex44
theorem lex42 : Region.lexFrom .any hops.toArray 80 42 (lb 42) = true := lex_step (by kernel_rfl) (by kernel_rfl) lex43
theorem lex41 : Region.lexFrom .any hops.toArray 81 41 (lb 41) = true := lex_step (by kernel_rfl) (by kernel_rfl) lex42
theorem lex40 : Region.lexFrom .any hops.toArray 82 40 (lb 40) = true := lex_step (by kernel_rfl) (by kernel_rfl) lex41
theorem lex39 : Region.lexFrom .any hops.toArray 83 39 (lb 39) = true := lex_step (by kernel_rfl) (by kernel_rfl) lex40
theorem lex38 : Region.lexFrom .any hops.toArray 84 38 (lb 38) = true := lex_step (by kernel_rfl) (by kernel_rfl) lex39
theorem lex37 : Region.lexFrom .any hops.toArray 85 37 (lb 37) = true := lex_step (by kernel_rfl) (by kernel_rfl) lex38
theorem lex36 : Region.lexFrom .any hops.toArray 86 36 (lb 36) = true := lex_step (by kernel_rfl) (by kernel_rfl) lex37
theorem lex35 : Region.lexFrom .any hops.toArray 87 35 (lb 35) = true := lex_step (by kernel_rfl) (by kernel_rfl) lex36
theorem lex34 : Region.lexFrom .any hops.toArray 88 34 (lb 34) = true := lex_step (by kernel_rfl) (by kernel_rfl) lex35
theorem lex33 : Region.lexFrom .any hops.toArray 89 33 (lb 33) = true := lex_step (by kernel_rfl) (by kernel_rfl) lex34
theorem lex32 : Region.lexFrom .any hops.toArray 90 32 (lb 32) = true := lex_step (by kernel_rfl) (by kernel_rfl) lex33
theorem lex31 : Region.lexFrom .any hops.toArray 91 31 (lb 31) = true := lex_step (by kernel_rfl) (by kernel_rfl) lex32
theorem lex30 : Region.lexFrom .any hops.toArray 92 30 (lb 30) = true := lex_step (by kernel_rfl) (by kernel_rfl) lex31
theorem lex29 : Region.lexFrom .any hops.toArray 93 29 (lb 29) = true := lex_step (by kernel_rfl) (by kernel_rfl) lex30
theorem lex28 : Region.lexFrom .any hops.toArray 94 28 (lb 28) = true := lex_step (by kernel_rfl) (by kernel_rfl) lex29
theorem lex27 : Region.lexFrom .any hops.toArray 95 27 (lb 27) = true := lex_step (by kernel_rfl) (by kernel_rfl) lex28
theorem lex26 : Region.lexFrom .any hops.toArray 96 26 (lb 26) = true := lex_step (by kernel_rfl) (by kernel_rfl) lex27
theorem lex25 : Region.lexFrom .any hops.toArray 97 25 (lb 25) = true := lex_step (by kernel_rfl) (by kernel_rfl) lex26
theorem lex24 : Region.lexFrom .any hops.toArray 98 24 (lb 24) = true := lex_step (by kernel_rfl) (by kernel_rfl) lex25
theorem lex23 : Region.lexFrom .any hops.toArray 99 23 (lb 23) = true := lex_step (by kernel_rfl) (by kernel_rfl) lex24
theorem lex22 : Region.lexFrom .any hops.toArray 100 22 (lb 22) = true := lex_step (by kernel_rfl) (by kernel_rfl) lex23
theorem lex21 : Region.lexFrom .any hops.toArray 101 21 (lb 21) = true := lex_step (by kernel_rfl) (by kernel_rfl) lex22
theorem lex20 : Region.lexFrom .any hops.toArray 102 20 (lb 20) = true := lex_step (by kernel_rfl) (by kernel_rfl) lex21
theorem lex19 : Region.lexFrom .any hops.toArray 103 19 (lb 19) = true := lex_step (by kernel_rfl) (by kernel_rfl) lex20
theorem lex18 : Region.lexFrom .any hops.toArray 104 18 (lb 18) = true := lex_step (by kernel_rfl) (by kernel_rfl) lex19
theorem lex17 : Region.lexFrom .any hops.toArray 105 17 (lb 17) = true := lex_step (by kernel_rfl) (by kernel_rfl) lex18
theorem lex16 : Region.lexFrom .any hops.toArray 106 16 (lb 16) = true := lex_step (by kernel_rfl) (by kernel_rfl) lex17
theorem lex15 : Region.lexFrom .any hops.toArray 107 15 (lb 15) = true := lex_step (by kernel_rfl) (by kernel_rfl) lex16
theorem lex14 : Region.lexFrom .any hops.toArray 108 14 (lb 14) = true := lex_step (by kernel_rfl) (by kernel_rfl) lex15
theorem lex13 : Region.lexFrom .any hops.toArray 109 13 (lb 13) = true := lex_step (by kernel_rfl) (by kernel_rfl) lex14
theorem lex12 : Region.lexFrom .any hops.toArray 110 12 (lb 12) = true := lex_step (by kernel_rfl) (by kernel_rfl) lex13
theorem lex11 : Region.lexFrom .any hops.toArray 111 11 (lb 11) = true := lex_step (by kernel_rfl) (by kernel_rfl) lex12
theorem lex10 : Region.lexFrom .any hops.toArray 112 10 (lb 10) = true := lex_step (by kernel_rfl) (by kernel_rfl) lex11
theorem lex9 : Region.lexFrom .any hops.toArray 113 9 (lb 9) = true := lex_step (by kernel_rfl) (by kernel_rfl) lex10
theorem lex8 : Region.lexFrom .any hops.toArray 114 8 (lb 8) = true := lex_step (by kernel_rfl) (by kernel_rfl) lex9
theorem lex7 : Region.lexFrom .any hops.toArray 115 7 (lb 7) = true := lex_step (by kernel_rfl) (by kernel_rfl) lex8
theorem lex6 : Region.lexFrom .any hops.toArray 116 6 (lb 6) = true := lex_step (by kernel_rfl) (by kernel_rfl) lex7
theorem lex5 : Region.lexFrom .any hops.toArray 117 5 (lb 5) = true := lex_step (by kernel_rfl) (by kernel_rfl) lex6
theorem lex4 : Region.lexFrom .any hops.toArray 118 4 (lb 4) = true := lex_step (by kernel_rfl) (by kernel_rfl) lex5
theorem lex3 : Region.lexFrom .any hops.toArray 119 3 (lb 3) = true := lex_step (by kernel_rfl) (by kernel_rfl) lex4
theorem lex2 : Region.lexFrom .any hops.toArray 120 2 (lb 2) = true := lex_step (by kernel_rfl) (by kernel_rfl) lex3
theorem lex1 : Region.lexFrom .any hops.toArray 121 1 (lb 1) = true := lex_step (by kernel_rfl) (by kernel_rfl) lex2
theorem lex0 : Region.lexFrom .any hops.toArray 122 0 (lb 0) = true := lex_step (by kernel_rfl) (by kernel_rfl) lex1
theorem lexAll : Region.lexB .any hops.toArray = true := by
  unfold Region.lexB
  rw [show Region.noSelect hops.toArray = true by kernel_rfl, show hops.toArray.size = 122 by kernel_rfl, show Array.replicate 122 false = lb 0 by kernel_rfl, lex0]
  rfl
end dnsHeads
end Go.Proofs.YtodjgbdjkncpgaaGreatDoor
