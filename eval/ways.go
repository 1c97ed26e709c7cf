package eval

import (
	"quarantine/api"
	"quarantine/num"
	"quarantine/value"
)

// made tells what op makes of args; it has as many as it needs.
func made(op int, args []api.Value) (api.Value, api.Errno) {
	switch op {
	case api.ExNeg, api.ExAdd, api.ExSub, api.ExMul:
		return reckoned(op, args)
	case api.ExNot:
		n, err := intOf(args[0], api.Bool)
		return truth(n != 1), err
	}
	return compared(op, args[0], args[1])
}

// reckoned tells the number that op makes of these.
func reckoned(op int, args []api.Value) (api.Value, api.Errno) {
	l, err := each(args, func(v api.Value) (int64, api.Errno) { return intOf(v, api.Int) })
	if err != api.OK {
		return api.Value{}, err
	}
	n, err := ofNumbers(op, l)
	return api.Value{Kind: api.Int, Int: n}, err
}

func ofNumbers(op int, l []int64) (int64, api.Errno) {
	switch op {
	case api.ExNeg:
		return num.Neg(l[0])
	case api.ExAdd:
		return between(l, num.Add)
	case api.ExSub:
		return between(l, num.Sub)
	}
	return between(l, num.Mul)
}

// compared tells whether a stands to b as op says.
func compared(op int, a, b api.Value) (api.Value, api.Errno) {
	if a.Kind != b.Kind || a.Kind != api.Int && a.Kind != api.Text {
		return api.Value{}, api.ErrType
	}
	return truth(stands(op, value.Compare(a, b))), api.OK
}

// stands tells whether op is said of two that stand to each other so.
func stands(op, order int) bool {
	switch op {
	case api.ExEq:
		return order == 0
	case api.ExNe:
		return order != 0
	case api.ExLt:
		return order < 0
	case api.ExLe:
		return order <= 0
	case api.ExGt:
		return order > 0
	}
	return order >= 0
}

// intOf tells the number of a value of that kind. ErrType: it is of another.
func intOf(v api.Value, kind int) (int64, api.Errno) {
	if v.Kind != kind {
		return 0, api.ErrType
	}
	return v.Int, api.OK
}

// truth tells is as a value.
func truth(is bool) api.Value {
	if is {
		return api.Value{Kind: api.Bool, Int: 1}
	}
	return api.Value{Kind: api.Bool}
}
