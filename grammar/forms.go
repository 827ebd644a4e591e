package grammar

import (
	"iter"

	"intaglio/api"
)

// The columns of a form's text, in their order; a slash stands between two of them.
const (
	nameColumn = iota
	idsColumn  // t: a type's id; r: a result's
	fixedColumn
	restColumn
	mostColumn
	partColumn
)

// opsEnd is above all operations that there are.
const opsEnd = 256

// form is an operation's form, which tells the letters of its arguments.
type form api.Form

// readForm reads a form's text.
func readForm(op uint16, text string) form {
	f := form{Op: op}
	column, from := nameColumn, 0
	for at, c := range text {
		switch {
		case c == '/':
			column++
			from = at + 1
		case column == nameColumn:
			f.Name = text[from : at+1]
		case column == idsColumn:
			f.Type = f.Type || c == 't'
			f.Result = f.Result || c == 'r'
		case column == fixedColumn:
			f.Fixed = text[from : at+1]
		case column == restColumn:
			f.Rest = text[from : at+1]
		case column == mostColumn:
			f.Most = 10*f.Most + int(c-'0')
		case column == partColumn:
			f.Part = uint8(c - '0')
		}
	}
	return f
}

// letter is the letter of the argument of a number; 0, if there is none.
func (f *form) letter(i int) byte { return f.teller(i)(i) }

// teller is that one of a form's methods which tells what the argument of a number must be.
func (f *form) teller(i int) func(int) byte {
	switch {
	case i < 0:
		return f.noLetter
	case i < len(f.Fixed):
		return f.fixedLetter
	case f.mayFollow(i - len(f.Fixed)):
		return f.restLetter
	}
	return f.noLetter
}

// mayFollow says whether a form has an argument of that number behind Fixed.
func (f *form) mayFollow(behind int) bool {
	if f.Rest == "" {
		return false
	}
	return f.Most == 0 || behind/len(f.Rest) < f.Most
}

func (f *form) noLetter(int) byte { return 0 }

func (f *form) fixedLetter(i int) byte { return f.Fixed[i] }

func (f *form) restLetter(i int) byte { return f.Rest[(i-len(f.Fixed))%len(f.Rest)] }

// whole says whether so many arguments, each with a letter, are Fixed and whole rows of Rest.
func (f *form) whole(n int) bool {
	behind := n - len(f.Fixed)
	return behind == 0 || behind > 0 && behind%len(f.Rest) == 0
}

// formTexts goes over the texts of all forms, rising by their operations.
func formTexts() iter.Seq2[uint16, string] {
	return func(yield func(uint16, string) bool) {
		for op := range uint16(opsEnd) {
			if text := formText(op); text != "" && !yield(op, text) {
				return
			}
		}
	}
}

// formText is the text of an operation's form; no bytes, if there is none.
// It is told in several functions just so that none of them is long.
func formText(op uint16) string {
	switch {
	case op < 41:
		return namingText(op)
	case op < 124:
		return makingText(op)
	case op < 164:
		return countingText(op)
	case op < 194:
		return comparingText(op)
	case op < 245:
		return bitText(op)
	}
	return flowText(op)
}

// namingText tells the operations up to 33: those that say what a module is and what its things are called, and those that make types.
func namingText(op uint16) string {
	switch op {
	case 1:
		return "OpUndef/tr///0/7"
	case 3:
		return "OpSource//ln//0/4"
	case 5:
		return "OpName//is//0/5"
	case 6:
		return "OpMemberName//ins//0/5"
	case 7:
		return "OpString/r/s//0/4"
	case 14:
		return "OpMemoryModel//am//0/1"
	case 15:
		return "OpEntryPoint//eis/i/0/2"
	case 16:
		return "OpExecutionMode//ix//0/3"
	case 17:
		return "OpCapability//k//0/0"
	case 19:
		return "OpTypeVoid/r///0/7"
	case 20:
		return "OpTypeBool/r///0/7"
	case 21:
		return "OpTypeInt/r/nn//0/7"
	case 23:
		return "OpTypeVector/r/in//0/7"
	case 28:
		return "OpTypeArray/r/ii//0/7"
	case 30:
		return "OpTypeStruct/r//i/0/7"
	case 32:
		return "OpTypePointer/r/ci//0/7"
	case 33:
		return "OpTypeFunction/r/i/i/0/7"
	}
	return ""
}

// makingText tells those from 41 to 83: of constants, functions, variables, decorations, and of values that are put together and taken apart.
func makingText(op uint16) string {
	switch op {
	case 41:
		return "OpConstantTrue/tr///0/7"
	case 42:
		return "OpConstantFalse/tr///0/7"
	case 43:
		return "OpConstant/tr/n//0/7"
	case 44:
		return "OpConstantComposite/tr//i/0/7"
	case 46:
		return "OpConstantNull/tr///0/7"
	case 54:
		return "OpFunction/tr/fi//0/8"
	case 55:
		return "OpFunctionParameter/tr///0/8"
	case 56:
		return "OpFunctionEnd////0/8"
	case 57:
		return "OpFunctionCall/tr/i/i/0/8"
	case 59:
		return "OpVariable/tr/c/i/1/7"
	case 61:
		return "OpLoad/tr/i//0/8"
	case 62:
		return "OpStore//ii//0/8"
	case 65:
		return "OpAccessChain/tr/i/i/0/8"
	case 71:
		return "OpDecorate//id/n/0/6"
	case 77:
		return "OpVectorExtractDynamic/tr/ii//0/8"
	case 78:
		return "OpVectorInsertDynamic/tr/iii//0/8"
	case 79:
		return "OpVectorShuffle/tr/ii/n/0/8"
	case 80:
		return "OpCompositeConstruct/tr//i/0/8"
	case 81:
		return "OpCompositeExtract/tr/i/n/0/8"
	case 82:
		return "OpCompositeInsert/tr/ii/n/0/8"
	case 83:
		return "OpCopyObject/tr/i//0/8"
	}
	return ""
}

// countingText tells those from 124 to 155: of whole numbers, and those that ask all parts of a vector.
func countingText(op uint16) string {
	switch op {
	case 124:
		return "OpBitcast/tr/i//0/8"
	case 126:
		return "OpSNegate/tr/i//0/8"
	case 128:
		return "OpIAdd/tr/ii//0/8"
	case 130:
		return "OpISub/tr/ii//0/8"
	case 132:
		return "OpIMul/tr/ii//0/8"
	case 134:
		return "OpUDiv/tr/ii//0/8"
	case 135:
		return "OpSDiv/tr/ii//0/8"
	case 137:
		return "OpUMod/tr/ii//0/8"
	case 138:
		return "OpSRem/tr/ii//0/8"
	case 139:
		return "OpSMod/tr/ii//0/8"
	case 149:
		return "OpIAddCarry/tr/ii//0/8"
	case 150:
		return "OpISubBorrow/tr/ii//0/8"
	case 151:
		return "OpUMulExtended/tr/ii//0/8"
	case 152:
		return "OpSMulExtended/tr/ii//0/8"
	case 154:
		return "OpAny/tr/i//0/8"
	case 155:
		return "OpAll/tr/i//0/8"
	}
	return ""
}

// comparingText tells those from 164 to 179: of truths, and those that hold numbers against each other.
func comparingText(op uint16) string {
	switch op {
	case 164:
		return "OpLogicalEqual/tr/ii//0/8"
	case 165:
		return "OpLogicalNotEqual/tr/ii//0/8"
	case 166:
		return "OpLogicalOr/tr/ii//0/8"
	case 167:
		return "OpLogicalAnd/tr/ii//0/8"
	case 168:
		return "OpLogicalNot/tr/i//0/8"
	case 169:
		return "OpSelect/tr/iii//0/8"
	case 170:
		return "OpIEqual/tr/ii//0/8"
	case 171:
		return "OpINotEqual/tr/ii//0/8"
	case 172:
		return "OpUGreaterThan/tr/ii//0/8"
	case 173:
		return "OpSGreaterThan/tr/ii//0/8"
	case 174:
		return "OpUGreaterThanEqual/tr/ii//0/8"
	case 175:
		return "OpSGreaterThanEqual/tr/ii//0/8"
	case 176:
		return "OpULessThan/tr/ii//0/8"
	case 177:
		return "OpSLessThan/tr/ii//0/8"
	case 178:
		return "OpULessThanEqual/tr/ii//0/8"
	case 179:
		return "OpSLessThanEqual/tr/ii//0/8"
	}
	return ""
}

// bitText tells those from 194 to 205: of bits.
func bitText(op uint16) string {
	switch op {
	case 194:
		return "OpShiftRightLogical/tr/ii//0/8"
	case 195:
		return "OpShiftRightArithmetic/tr/ii//0/8"
	case 196:
		return "OpShiftLeftLogical/tr/ii//0/8"
	case 197:
		return "OpBitwiseOr/tr/ii//0/8"
	case 198:
		return "OpBitwiseXor/tr/ii//0/8"
	case 199:
		return "OpBitwiseAnd/tr/ii//0/8"
	case 200:
		return "OpNot/tr/i//0/8"
	case 201:
		return "OpBitFieldInsert/tr/iiii//0/8"
	case 202:
		return "OpBitFieldSExtract/tr/iii//0/8"
	case 203:
		return "OpBitFieldUExtract/tr/iii//0/8"
	case 204:
		return "OpBitReverse/tr/i//0/8"
	case 205:
		return "OpBitCount/tr/i//0/8"
	}
	return ""
}

// flowText tells those from 245 to 255: where blocks begin, join and end.
func flowText(op uint16) string {
	switch op {
	case 245:
		return "OpPhi/tr//ii/0/8"
	case 246:
		return "OpLoopMerge//iig//0/8"
	case 247:
		return "OpSelectionMerge//ih//0/8"
	case 248:
		return "OpLabel/r///0/8"
	case 249:
		return "OpBranch//i//0/8"
	case 250:
		return "OpBranchConditional//iii//0/8"
	case 251:
		return "OpSwitch//ii/ni/0/8"
	case 252:
		return "OpKill////0/8"
	case 253:
		return "OpReturn////0/8"
	case 254:
		return "OpReturnValue//i//0/8"
	case 255:
		return "OpUnreachable////0/8"
	}
	return ""
}
