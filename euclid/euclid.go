// Package euclid tells what divides both of two numbers: see doc/01-euclid.md.
package euclid

import "lockwright/api"

// Gcd: the greatest number that divides both a and b; 0, if both are 0.
func Gcd(a, b int64) (int64, api.Errno) {
	if !inRange(a, b) {
		return 0, api.ErrRange
	}
	g, _ := extend(abs(a), abs(b))
	return g, api.OK
}

// Lcm: the least number above 0 that both a and b divide; 0, if one of them is 0.
func Lcm(a, b int64) (int64, api.Errno) {
	if !inRange(a, b) {
		return 0, api.ErrRange
	}
	if a == 0 || b == 0 {
		return 0, api.OK
	}
	g, _ := extend(abs(a), abs(b))
	return abs(a) / g * abs(b), api.OK
}

// Bezout: the Gcd of a and b, and x and y, so that x * a + y * b is it.
// If b is 0, so is y, and x is the sign of a; else x is the least from 0 on.
func Bezout(a, b int64) (int64, int64, int64, api.Errno) {
	if !inRange(a, b) {
		return 0, 0, 0, api.ErrRange
	}
	if b == 0 {
		return abs(a), sign(a), 0, api.OK
	}
	g, x := leastFactor(a, b)
	return g, x, (g - x*a) / b, api.OK
}

// Inverse: the number from 0 to m - 1 that times a leaves 1, divided by m; 0, if m is 1.
func Inverse(a, m int64) (int64, api.Errno) {
	if !inRange(a) || m < 1 || m > api.MaxMod {
		return 0, api.ErrRange
	}
	g, x := leastFactor(a, m)
	if g != 1 {
		return 0, api.ErrNone
	}
	return x, api.OK
}

// inRange keeps every later sum and product of two of the numbers within an int64.
func inRange(numbers ...int64) bool {
	for _, n := range numbers {
		if n < -api.MaxNum || n > api.MaxNum {
			return false
		}
	}
	return true
}

// leastFactor answers the greatest divisor g of a and b, and the least x from 0 on for which b divides x * a - g; b is not 0.
func leastFactor(a, b int64) (int64, int64) {
	g, x := extend(abs(a), abs(b))
	// All such x are abs(b) / g apart, so what is left by that is the least.
	return g, left(x*sign(a), abs(b)/g)
}

// extend answers the greatest divisor g of a and b, both from 0 on, and some x for which b divides x * a - g.
func extend(a, b int64) (int64, int64) {
	x, next := int64(1), int64(0)
	for b != 0 {
		q := a / b
		a, b = b, a-q*b
		x, next = next, x-q*next
	}
	return a, x
}

// left answers what is left of n, divided by m, from 0 on: Go's % takes the sign of n.
func left(n, m int64) int64 {
	r := n % m
	if r < 0 {
		r += m
	}
	return r
}

func abs(n int64) int64 { return n * sign(n) }

func sign(n int64) int64 {
	switch {
	case n < 0:
		return -1
	case n > 0:
		return 1
	}
	return 0
}
