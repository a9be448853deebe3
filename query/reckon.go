package query

import "prelude/api"

// reckon fills in what each term is at a row. A term's parts stand ahead of it, so they are filled in already.
func reckon(terms []api.Term, row api.Row, values []int64) {
	for at, t := range terms {
		switch needs(t.Op) {
		case 0:
			values[at] = single(t, row)
		case 1:
			values[at] = ofOne(t.Op, values[t.L])
		case 2:
			values[at] = ofTwo(t.Op, values[t.L], values[t.R])
		}
	}
}

// single is a term that is reckoned from no other one.
func single(t api.Term, row api.Row) int64 {
	switch t.Op {
	case api.QRow:
		return row.Key.Row
	case api.QValue:
		return row.Value
	}
	return t.Num
}

// ofOne is what is reckoned from one number.
func ofOne(op int, x int64) int64 {
	if op == api.QNot {
		return truth(x == 0)
	}
	return -x
}

// ofTwo is what is reckoned from two numbers.
func ofTwo(op int, x, y int64) int64 {
	switch op {
	case api.QOr:
		return truth(x != 0 || y != 0)
	case api.QAnd:
		return truth(x != 0 && y != 0)
	case api.QEq:
		return truth(x == y)
	case api.QNe:
		return truth(x != y)
	case api.QLt:
		return truth(x < y)
	case api.QLe:
		return truth(x <= y)
	case api.QGt:
		return truth(x > y)
	case api.QGe:
		return truth(x >= y)
	case api.QAdd:
		return x + y
	case api.QSub:
		return x - y
	case api.QMul:
		return x * y
	}
	return shared(op, x, y)
}

// shared is a division or what it leaves; of one by 0 both are 0.
func shared(op int, x, y int64) int64 {
	switch {
	case y == 0:
		return 0
	case op == api.QDiv:
		return x / y
	}
	return x % y
}

// truth is 1 for yes and 0 for no.
func truth(yes bool) int64 {
	if yes {
		return 1
	}
	return 0
}
