package source

import "prelude/api"

// The grammar's lines of expressions: the further down, the closer is joined what they join.
const (
	rankExpr = iota
	rankOr
	rankAnd
	rankBits
	rankXor
	rankMask
	rankCmp
	rankShift
	rankSum
	rankProd
	rankUnary
	rankPrimary
)

// joint is a sign between two: the grammar's line that has it, and what the two are together.
type joint struct {
	sign           string
	rank, kind, op int
}

// joints is the signs of the grammar's lines from or to prod.
var joints = [...]joint{
	{"||", rankOr, api.EOr, 0},
	{"&&", rankAnd, api.EAnd, 0},
	{"|", rankBits, api.EBinary, api.IOr},
	{"^", rankXor, api.EBinary, api.IXor},
	{"&", rankMask, api.EBinary, api.IAnd},
	{"==", rankCmp, api.EBinary, api.IEq},
	{"!=", rankCmp, api.EBinary, api.INe},
	{"<", rankCmp, api.EBinary, api.ILt},
	{"<=", rankCmp, api.EBinary, api.ILe},
	{">", rankCmp, api.EBinary, api.IGt},
	{">=", rankCmp, api.EBinary, api.IGe},
	{"<<", rankShift, api.EBinary, api.IShl},
	{">>", rankShift, api.EBinary, api.IShr},
	{"+", rankSum, api.EBinary, api.IAdd},
	{"-", rankSum, api.EBinary, api.ISub},
	{"*", rankProd, api.EBinary, api.IMul},
	{"/", rankProd, api.EBinary, api.IDiv},
	{"%", rankProd, api.EBinary, api.IMod},
}

// jointOf is the joint of a line of the grammar that is written so, and whether there is one.
func jointOf(rank int, sign string) (joint, bool) {
	for _, j := range joints {
		if j.rank == rank && j.sign == sign {
			return j, true
		}
	}
	return joint{}, false
}

// jointIn is the joint that makes an expression what it is, and whether there is one.
func jointIn(x api.Expr) (joint, bool) {
	for _, j := range joints {
		if j.kind == x.Kind && j.op == x.Op {
			return j, true
		}
	}
	return joint{}, false
}

// joinsOnce tells whether a line of the grammar joins two parts and no more.
func joinsOnce(rank int) bool { return rank == rankCmp }

// signOfUnary is the sign of an instruction that takes one value, "" if it has none.
func signOfUnary(op int) string {
	switch op {
	case api.INeg:
		return "-"
	case api.INot:
		return "!"
	}
	return ""
}

// wordOfTwo is the word of an instruction that takes two values and has a word, "" if it has none.
func wordOfTwo(op int) string {
	switch op {
	case api.IMin:
		return "min"
	case api.IMax:
		return "max"
	}
	return ""
}
