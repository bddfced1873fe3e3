package parts

import "ignition/api"

// stack is that on which an expression is carried out.
type stack[T any] struct{ values []T }

// put lays a value on the stack.
func (s *stack[T]) put(v T) { s.values = append(s.values, v) }

// take takes the last n values, at most three, in the order in which they were put.
func (s *stack[T]) take(n int) (taken [3]T) {
	from := len(s.values) - n
	copy(taken[:], s.values[from:])
	s.values = s.values[:from]
	return taken
}

// takes returns how many operands an operation of a kind has.
func takes(kind int) int {
	switch kind {
	case api.Const, api.InPort, api.Kept:
		return 0
	case api.If:
		return 3
	}
	return 2
}

// carry carries out a well-formed expression: do says what an operation leaves of its operands, of which it uses as many as it has.
func carry[T any](x api.Expr, do func(op api.Op, x, y, z T) T) T {
	var s stack[T]
	for _, op := range x.Ops {
		taken := s.take(takes(op.Kind))
		s.put(do(op, taken[0], taken[1], taken[2]))
	}
	return s.take(1)[0]
}

// evaluate returns the value of an expression. Its bounds have to be such that no operation overflows.
func evaluate(x api.Expr, in, keep []int) int {
	return carry(x, func(op api.Op, x, y, z int) int {
		switch op.Kind {
		case api.Const:
			return op.Value
		case api.InPort:
			return in[op.Value]
		case api.Kept:
			return keep[op.Value]
		case api.Add:
			return x + y
		case api.Sub:
			return x - y
		case api.Mul:
			return x * y
		case api.Min:
			return min(x, y)
		case api.Max:
			return max(x, y)
		case api.Less:
			return truth(x < y)
		case api.Equal:
			return truth(x == y)
		}
		if x != 0 {
			return y
		}
		return z
	})
}

// truth returns the number of an answer.
func truth(is bool) int {
	if is {
		return 1
	}
	return 0
}
