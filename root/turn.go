package root

import (
	"math"

	"penumbra/cx"
)

// rootAt answers Root(n, k) for k from 0 to n - 1; steps are those up to n.
func rootAt(n, k int, steps []complex128) complex128 {
	if n < 4 { // orders 1 and 2 have no quarters of their own, but their roots are among those of order 4
		return rootAt(4, k*(4/n), steps)
	}
	quarter := n / 4
	root := inQuarter(n, k%quarter, steps)
	for range k / quarter {
		root = cx.Plain(cx.Turn(root, 1))
	}
	return root
}

// inQuarter answers the roots ahead of a quarter turn. Those above an eighth are the lower ones seen in the diagonal, so that both eighths have the very same parts.
func inQuarter(n, k int, steps []complex128) complex128 {
	if k > n/8 {
		mirror := inEighth(n, n/4-k, steps)
		return complex(imag(mirror), real(mirror))
	}
	return inEighth(n, k, steps)
}

// inEighth answers the roots up to an eighth of a turn. An even k is one of half the order, and an odd one is a step of its order behind an even one: so each bit of k asks for one step, the highest bit for that of the lowest order, and first.
func inEighth(n, k int, steps []complex128) complex128 {
	root := complex(1, 0)
	bit := n / 8
	for _, step := range steps {
		if k&bit != 0 {
			root = cx.Plain(cx.Mul(root, step))
		}
		bit /= 2
	}
	return root
}

// stepsTo answers the steps of 8, 16, .. up to n, each made of the one ahead of it.
func stepsTo(n int) []complex128 {
	var steps []complex128
	step := complex(math.Sqrt(0.5), math.Sqrt(0.5))
	for order := 8; order <= n; order *= 2 {
		steps = append(steps, step)
		step = halved(step)
	}
	return steps
}

// halved answers the step of twice the order: half the angle.
func halved(step complex128) complex128 {
	sum := 1 + real(step)
	c := math.Sqrt(float64(0.5 * sum))
	return complex(c, imag(step)/float64(2*c))
}
