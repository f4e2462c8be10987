// Package every asks a question of all that a list holds; layers share it.
package every

// One tells whether holds is so of each of xs, asked in their order; those behind the first one of which it is not so are not asked about.
func One[X any](xs []X, holds func(at int, x X) bool) bool {
	for at, x := range xs {
		if !holds(at, x) {
			return false
		}
	}
	return true
}

// Pair tells whether there are as many of xs as of ys, and holds is so of each two that stand side by side, asked in their order; those behind the first two of which it is not so are not asked about.
func Pair[X any, Y any](xs []X, ys []Y, holds func(x X, y Y) bool) bool {
	return len(xs) == len(ys) && One(xs, func(at int, x X) bool {
		return holds(x, ys[at])
	})
}
