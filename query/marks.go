package query

import "prelude/api"

// The ranks of marks between two: the further down, the tighter.
const (
	rankOr = iota
	rankAnd
	rankSame
	rankOrder
	rankSum
	rankProd
)

// binary is a mark between two terms, its rank, and what is reckoned from the two.
type binary struct {
	mark     string
	rank, op int
}

// binaries is all marks between two.
var binaries = [...]binary{
	{"||", rankOr, api.QOr},
	{"&&", rankAnd, api.QAnd},
	{"==", rankSame, api.QEq},
	{"!=", rankSame, api.QNe},
	{"<", rankOrder, api.QLt},
	{"<=", rankOrder, api.QLe},
	{">", rankOrder, api.QGt},
	{">=", rankOrder, api.QGe},
	{"+", rankSum, api.QAdd},
	{"-", rankSum, api.QSub},
	{"*", rankProd, api.QMul},
	{"/", rankProd, api.QDiv},
	{"%", rankProd, api.QMod},
}

// binaryOf is the mark between two that is written so, and whether there is one.
func binaryOf(mark string) (binary, bool) {
	for _, b := range binaries {
		if b.mark == mark {
			return b, true
		}
	}
	return binary{}, false
}

// markOfTwo is the mark between the two terms that something is reckoned from.
func markOfTwo(op int) string {
	for _, b := range binaries {
		if b.op == op {
			return b.mark
		}
	}
	return ""
}

// markOfOne is the mark ahead of the one term that something is reckoned from.
func markOfOne(op int) string {
	if op == api.QNot {
		return "!"
	}
	return "-"
}

// needs is how many terms something is reckoned from; or -1, if there is nothing of that kind.
func needs(op int) int {
	switch op {
	case api.QNum, api.QRow, api.QValue:
		return 0
	case api.QNot, api.QNeg:
		return 1
	case api.QOr, api.QAnd, api.QEq, api.QNe, api.QLt, api.QLe, api.QGt, api.QGe,
		api.QAdd, api.QSub, api.QMul, api.QDiv, api.QMod:
		return 2
	}
	return -1
}

// wordOfItem is the word ahead of what an item gathers, "" if there is none.
func wordOfItem(kind int) string {
	switch kind {
	case api.ItemCount:
		return "count"
	case api.ItemSum:
		return "sum"
	case api.ItemMin:
		return "min"
	case api.ItemMax:
		return "max"
	}
	return ""
}
