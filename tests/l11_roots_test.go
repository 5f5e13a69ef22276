package tests

import (
	"math/big"
	"slices"
	"sync"
	"testing"

	"loop.example/g01000/impl"
)

// largestCounted is the greatest modulus of rings whose roots are counted.
const largestCounted = 100000

// ringOf gives a ring and its modulus.
func ringOf(p, precision int64) (impl.Ring, int64) {
	return impl.Ring{Prime: p, Precision: precision}, new(big.Int).Exp(big.NewInt(p), big.NewInt(precision), nil).Int64()
}

// greatestRings gives, for each prime, the precision of the greatest ring.
func greatestRings() map[int64]int64 {
	most := map[int64]int64{}
	for r := range validRings() {
		most[r.Prime] = max(most[r.Prime], r.Precision)
	}
	return most
}

// remainderAt gives the remainder of the value of a list of coefficients at x by m, term by term.
func remainderAt(f []int64, x, m int64) int64 {
	value, power := int64(0), int64(1)%m
	for _, n := range f {
		value = (value + n%m*power) % m
		power = power * x % m
	}
	return (value + m) % m
}

// derivativeOf gives the coefficients of the derivative, which may be greater than those of valid polynomials.
func derivativeOf(f []int64) []int64 {
	list := []int64{}
	for i := 1; i < len(f); i++ {
		list = append(list, int64(i)*f[i])
	}
	return list
}

// timesDivided gives how often p divides the value of a list of coefficients at x, up to the precision.
func timesDivided(r impl.Ring, f []int64, x int64) int64 {
	count, power := int64(0), r.Prime
	for count < r.Precision && remainderAt(f, x, power) == 0 {
		count++
		power *= r.Prime
	}
	return count
}

// isSimple tells whether a number is a simple root by p.
func isSimple(p int64, f []int64, a int64) bool {
	return remainderAt(f, a, p) == 0 && remainderAt(derivativeOf(f), a, p) != 0
}

// rootsBehind gives the residues by the modulus of r that are roots and have the remainder a by p to the
// power of known, by trying digit after digit: all of them, or more than most, strictly increasing. It
// gives false if this takes too long.
func rootsBehind(r impl.Ring, f []int64, a, known int64, most int) ([]int64, bool) {
	roots, tries := []int64{}, 0
	var look func(x, power, left int64)
	look = func(x, power, left int64) {
		if left == 0 {
			roots = append(roots, x)
			return
		}
		for digit := int64(0); digit < r.Prime && len(roots) <= most && tries < 200000; digit++ {
			tries++
			if y := x + digit*power; remainderAt(f, y, power*r.Prime) == 0 {
				look(y, power*r.Prime, left-1)
			}
		}
	}
	_, power := ringOf(r.Prime, known)
	look(a, power, r.Precision-known)
	slices.Sort(roots)
	return roots, tries < 200000
}

// product gives the product of polynomials, or nil if it is not valid.
func product(factors ...[]int64) []int64 {
	f := []int64{1}
	for _, g := range factors {
		f, _ = fittedPolynomial(exactProduct(f, g))
	}
	return f
}

// withRoots gives the product of x - a for the numbers of a list, or nil if it is not valid.
func withRoots(list ...int64) []int64 {
	factors := [][]int64{}
	for _, a := range list {
		factors = append(factors, []int64{-a, 1})
	}
	return product(factors...)
}

// greatestFactor gives the greatest power of p that is a valid coefficient, and its exponent.
func greatestFactor(p int64) (power, exponent int64) {
	power = 1
	for power*p <= largestCoefficient {
		power *= p
		exponent++
	}
	return power, exponent
}

// rootPolynomials gives valid polynomials, most of them different ones for each prime p: constants,
// those of the degrees 1 to 8 with simple and multiple roots by p, with coefficients that p divides, and
// multiples of powers of p.
func rootPolynomials(p int64) [][]int64 {
	top, _ := greatestFactor(p)
	list := [][]int64{
		{1}, {-1}, {p}, {-p}, {p * p}, {top}, {-top}, {largestCoefficient}, {largestCoefficient - 1}, {-largestCoefficient},
		{0, 1}, {0, -1}, {-1, 1}, {1, 1}, {p - 1, 1}, {1 - p, -1}, {0, p}, {1, p}, {-p, p}, {p, p * p}, {0, top}, {top, top}, {-largestCoefficient, 1}, {-1, largestCoefficient}, {largestCoefficient, largestCoefficient - 1}, {3, 2}, {1, 97},
		{-2, 0, 1}, {1, 0, 1}, {-17, 0, 1}, {-p, 0, 1}, {p, 0, 1}, {-p * p, 0, 1}, {p * p, 0, -1}, {-top, 0, 1}, {p - 1, 0, 1}, {1, 1, 1}, {0, 1, 1}, {0, p, 1}, {1, 1, p}, {0, 1, top}, {-1, p, p}, {-p, 0, top},
		{-2, 0, 0, 1}, {p, 0, 0, 1}, {1, 0, p, 1}, {-1, 0, 0, 0, 1}, {-p * p, 0, 0, 0, 1}, {-p * p * p, 0, 0, 1},
		append(make([]int64, 8), 1), append(make([]int64, 8), -largestCoefficient), append(make([]int64, 7), 1), append([]int64{-1}, append(make([]int64, 7), 1)...), append([]int64{-top}, append(make([]int64, 7), 1)...), append([]int64{0, 1}, append(make([]int64, 6), p)...), append([]int64{p, 1}, repeated(p, 7)...), repeated(1, 9), repeated(p, 9), repeated(-top, 9), repeated(largestCoefficient, 9),
		withRoots(0, 1, 2, 3, 4, 5, 6, 7), withRoots(0, 0), withRoots(1, 1, -2, -2, -2), withRoots(1, 1, 1+p), withRoots(0, p), withRoots(1, 1+p, 1+2*p), withRoots(p-1, -1), withRoots(1+p, 2), withRoots(0, 0, 1), withRoots(0, 0, 1, 1, 2, 3), withRoots(-1, -1), withRoots(0, 0, p, p), withRoots(1, 1-p*p), withRoots(0, 0, 0, p, p, p, 1, 2),
		product(withRoots(0, 1, 2), []int64{p}), product(withRoots(1, 1), []int64{top}), product(withRoots(0, p), []int64{p, p}), product([]int64{top / p}, []int64{1, 1, p}),
	}
	if p <= 7 {
		power := append(make([]int64, p), 1)
		power[1] = -1
		list = append(list, power, product(power, []int64{p}), product(power, power))
	}
	step := coefficientSteps(uint64(p))
	for length := 1; length <= impl.MaxDegree+1; length++ {
		for _, bound := range []int64{3, 1000, largestCoefficient} {
			f := make([]int64, length)
			for i := range f {
				f[i] = step(bound)
			}
			f[length-1] += 1 - f[length-1]*f[length-1]%2
			list = append(list, f)
		}
	}
	return slices.DeleteFunc(list, func(f []int64) bool { return len(f) == 0 || !impl.IsPolynomial(f) })
}

func TestConstantsOfRoots(t *testing.T) {
	if impl.MaxRoots != 60 {
		t.Error("MaxRoots", impl.MaxRoots)
	}
	for p := range greatestRings() {
		if count := len(rootPolynomials(p)); count < 75 {
			t.Error("polynomials", p, count)
		}
	}
}

// TestValuesInRings compares with values formed by exact integers.
func TestValuesInRings(t *testing.T) {
	for r, m := range validRings() {
		for _, f := range append(rootPolynomials(r.Prime), nil) {
			for _, x := range []int64{0, 1 % m, r.Prime % m, m / 2, m - r.Prime, m - 2, m - 1} {
				want := new(big.Int).Mod(exactValue(f, x), big.NewInt(m)).Int64()
				if got, code := impl.ValueInRing(r, f, x); got != want || code != impl.ErrNone {
					t.Fatal("ValueInRing", r, f, x, got, code, want)
				}
			}
		}
	}
}

// TestValuesStepsAndStableRoots asks at many residues for values, steps and Hensel's condition.
func TestValuesStepsAndStableRoots(t *testing.T) {
	steps, stable, edges := map[int64]int{}, map[bool]int{}, map[int64]int{}
	for r, m := range validRings() {
		for _, f := range append(rootPolynomials(r.Prime), nil) {
			derivative := derivativeOf(f)
			for _, x := range residuesOf(r, m)[:min(m, 30)] {
				value, slope := remainderAt(f, x, m), remainderAt(derivative, x, m)
				if got, code := impl.ValueInRing(r, f, x); got != value || code != impl.ErrNone {
					t.Fatal("ValueInRing", r, f, x, got, code, value)
				}
				got, code := impl.NewtonStep(r, f, x)
				steps[code]++
				if slope%r.Prime == 0 {
					if got != 0 || code != impl.ErrState {
						t.Fatal("NewtonStep", r, f, x, got, code)
					}
				} else if got < 0 || got >= m || code != impl.ErrNone || ((x-got+m)%m*slope-value)%m != 0 {
					// What is taken from x, times the derivative, is the value.
					t.Fatal("NewtonStep", r, f, x, got, code)
				}
				distance := timesDivided(r, f, x) - 2*timesDivided(r, derivative, x)
				edges[distance]++
				stable[distance > 0]++
				if got, code := impl.StableRoot(r, f, x); got != (distance > 0) || code != impl.ErrNone {
					t.Fatal("StableRoot", r, f, x, got, code, distance)
				}
			}
		}
	}
	if steps[impl.ErrNone] < 100000 || steps[impl.ErrState] < 50000 || stable[true] < 10000 || stable[false] < 100000 || edges[1] < 1000 || edges[0] < 1000 || edges[-1] < 1000 {
		t.Error("steps and conditions", steps, stable, edges)
	}
}

func TestValueInRing(t *testing.T) {
	eight := make([]int64, 8)
	for _, c := range []struct {
		p, precision int64
		f            []int64
		x, want      int64
	}{
		{7, 2, []int64{-2, 0, 1}, 10, 0}, {7, 2, []int64{-2, 0, 1}, 3, 7}, {7, 2, []int64{-2, 0, 1}, 0, 47}, {7, 2, []int64{-2, 0, 1}, 48, 48},
		// The polynomial 0, and constants.
		{2, 1, nil, 0, 0}, {97, 4, []int64{}, 88529280, 0}, {2, 1, []int64{1}, 1, 1}, {2, 1, []int64{-1}, 0, 1}, {2, 29, []int64{1}, 536870911, 1}, {97, 4, []int64{-1}, 5, 88529280}, {97, 1, []int64{1000000}, 5, 27}, {97, 1, []int64{-97}, 96, 0}, {3, 1, []int64{9}, 2, 0},
		// The degrees 1 and 8 at the greatest residues.
		{2, 29, []int64{0, 1}, 536870911, 536870911}, {2, 29, []int64{0, 0, 1}, 536870911, 1}, {31, 6, append(eight, 1), 887503680, 1}, {31, 6, append(eight, -1000000), 887503680, 886503681}, {31, 6, repeated(-1000000, 9), 887503680, 886503681}, {2, 29, repeated(1000000, 9), 1, 9000000}, {2, 29, append(eight, 1), 8, 16777216}, {2, 29, append(eight, 1), 16, 0},
		// All coefficients are multiples of the prime.
		{3, 18, []int64{3, -9, 27}, 1, 21}, {3, 2, []int64{9, 9, 9}, 5, 0}, {3, 2, []int64{3, 6}, 2, 6},
	} {
		r, _ := ringOf(c.p, c.precision)
		if got, code := impl.ValueInRing(r, c.f, c.x); got != c.want || code != impl.ErrNone {
			t.Error("ValueInRing", c, got, code)
		}
	}
}

func TestNewtonStep(t *testing.T) {
	for _, c := range []struct {
		p, precision  int64
		f             []int64
		x, want, code int64
	}{
		{7, 2, []int64{-2, 0, 1}, 3, 10, impl.ErrNone}, {7, 2, []int64{-2, 0, 1}, 4, 39, impl.ErrNone}, {5, 2, []int64{0, -1, 0, 0, 0, 1}, 2, 7, impl.ErrNone},
		// Roots already, and steps where the value is no multiple of the prime.
		{7, 2, []int64{-2, 0, 1}, 10, 10, impl.ErrNone}, {7, 2, []int64{-2, 0, 1}, 39, 39, impl.ErrNone}, {7, 2, []int64{-2, 0, 1}, 1, 26, impl.ErrNone}, {7, 2, []int64{-2, 0, 1}, 48, 23, impl.ErrNone}, {97, 1, []int64{1, 1}, 96, 96, impl.ErrNone}, {2, 1, []int64{0, 1}, 0, 0, impl.ErrNone}, {2, 1, []int64{0, 1}, 1, 0, impl.ErrNone},
		// The degree 1 ends after one step.
		{97, 1, []int64{1, 1}, 0, 96, impl.ErrNone}, {97, 4, []int64{-5, 1}, 88529280, 5, impl.ErrNone}, {97, 4, []int64{1, 1}, 17, 88529280, impl.ErrNone}, {2, 29, []int64{-1, 3}, 12345, 178956971, impl.ErrNone},
		// The prime divides the value of the derivative, also at a root.
		{7, 2, []int64{-2, 0, 1}, 0, 0, impl.ErrState}, {7, 2, []int64{-2, 0, 1}, 7, 0, impl.ErrState}, {7, 2, []int64{-2, 0, 1}, 42, 0, impl.ErrState}, {2, 29, []int64{-17, 0, 1}, 1, 0, impl.ErrState}, {2, 29, []int64{-17, 0, 1}, 0, 0, impl.ErrState}, {7, 2, []int64{0, 0, 1}, 0, 0, impl.ErrState}, {7, 2, []int64{0, 7}, 0, 0, impl.ErrState}, {7, 1, []int64{1, 7}, 3, 0, impl.ErrState}, {7, 1, []int64{3, 0, 0, 0, 0, 0, 0, 1}, 4, 0, impl.ErrState}, {7, 1, []int64{3, 1, 0, 0, 0, 0, 0, 1}, 4, 4 - 11 + 7, impl.ErrNone},
		// The derivative is 0.
		{2, 1, nil, 0, 0, impl.ErrState}, {97, 4, nil, 5, 0, impl.ErrState}, {2, 1, []int64{1}, 1, 0, impl.ErrState}, {97, 4, []int64{97}, 96, 0, impl.ErrState},
	} {
		r, _ := ringOf(c.p, c.precision)
		if got, code := impl.NewtonStep(r, c.f, c.x); got != c.want || code != c.code {
			t.Error("NewtonStep", c, got, code)
		}
	}
}

func TestStableRoot(t *testing.T) {
	for _, c := range []struct {
		p, precision int64
		f            []int64
		x            int64
		want         bool
	}{
		{7, 2, []int64{-2, 0, 1}, 3, true}, {7, 2, []int64{-2, 0, 1}, 4, true}, {7, 2, []int64{-2, 0, 1}, 10, true}, {7, 2, []int64{-2, 0, 1}, 1, false}, {7, 2, []int64{-2, 0, 1}, 0, false}, {7, 2, []int64{-2, 0, 1}, 48, false}, {7, 1, []int64{-2, 0, 1}, 3, true}, {7, 1, []int64{-2, 0, 1}, 2, false},
		// The square of 2 divides the value only, and then 8 and 16 do.
		{2, 29, []int64{-5, 0, 1}, 1, false}, {2, 29, []int64{-9, 0, 1}, 1, true}, {2, 29, []int64{-17, 0, 1}, 1, true}, {2, 29, []int64{-3, 0, 1}, 1, false},
		// The power of 2 that divides the value is at most the modulus.
		{2, 3, []int64{-9, 0, 1}, 1, true}, {2, 2, []int64{-9, 0, 1}, 1, false}, {2, 1, []int64{-9, 0, 1}, 1, false}, {2, 4, []int64{-17, 0, 1}, 1, true}, {2, 2, []int64{-17, 0, 1}, 1, false}, {3, 3, []int64{-36, 0, 1}, 3, true}, {3, 2, []int64{-36, 0, 1}, 3, false}, {3, 3, []int64{-18, 0, 1}, 3, false},
		// The values of the polynomial, of its derivative, or of both have the remainder 0.
		{7, 2, []int64{0, 1}, 0, true}, {7, 1, []int64{0, 1}, 0, true}, {97, 4, []int64{0, 1}, 0, true}, {2, 2, []int64{0, 0, 1}, 2, false}, {2, 3, []int64{0, 2}, 4, true}, {2, 2, []int64{0, 2}, 2, false}, {2, 3, []int64{4}, 1, false}, {2, 2, []int64{4}, 1, false}, {97, 4, []int64{1}, 5, false}, {2, 1, nil, 0, false}, {97, 4, nil, 88529280, false}, {3, 2, []int64{9, 9}, 1, false}, {3, 2, []int64{0, 0, 1}, 3, false}, {3, 2, []int64{0, 9, 1}, 0, false}, {3, 2, []int64{1, 9}, 0, false},
		// Powers of 10^4 and more: the square of the power at the derivative is beyond all moduli.
		{97, 4, []int64{0, 0, 1}, 912673, false}, {2, 29, []int64{0, 0, 1}, 1 << 28, false}, {2, 29, []int64{0, 1 << 14}, 0, true}, {2, 29, []int64{0, 1 << 15}, 0, false}, {2, 28, []int64{0, 1 << 14}, 0, false}, {31, 6, []int64{0, 923521}, 0, false}, {31, 6, []int64{0, 961}, 0, true}, {31, 6, []int64{0, 29791}, 0, false},
	} {
		r, _ := ringOf(c.p, c.precision)
		if got, code := impl.StableRoot(r, c.f, c.x); got != c.want || code != impl.ErrNone {
			t.Error("StableRoot", c, got, code)
		}
	}
}

// checkLift asks for the lift of a simple root and walks to it by steps, which double what is known.
func checkLift(t *testing.T, r impl.Ring, f []int64, a int64) int64 {
	t.Helper()
	only, ok := rootsBehind(r, f, a, 1, 1)
	if !ok || len(only) != 1 {
		t.Fatal("a simple root has not one lift", r, f, a, only)
	}
	if got, code := impl.LiftRoot(r, f, a); got != only[0] || code != impl.ErrNone {
		t.Fatal("LiftRoot", r, f, a, got, code, only)
	}
	if got, code := impl.ValueInRing(r, f, only[0]); got != 0 || code != impl.ErrNone {
		t.Fatal("the value at a lift", r, f, a, only, got, code)
	}
	x := a
	for known := int64(1); known < r.Precision; known *= 2 {
		x, _ = impl.NewtonStep(r, f, x)
	}
	if x != only[0] {
		t.Fatal("steps to the lift", r, f, a, x, only)
	}
	return x
}

// TestPromise12ALiftIsTheOnlyRoot asks for the lifts of all numbers below p in all rings, and finds the
// simple roots and their lifts by trying all digits.
func TestPromise12ALiftIsTheOnlyRoot(t *testing.T) {
	counts := map[int]int{}
	for r := range validRings() {
		for _, f := range append(rootPolynomials(r.Prime), nil) {
			lifts := []int64{}
			for a := range r.Prime {
				if isSimple(r.Prime, f, a) {
					lifts = append(lifts, checkLift(t, r, f, a))
				} else if got, code := impl.LiftRoot(r, f, a); got != 0 || code != impl.ErrState {
					t.Fatal("LiftRoot of no simple root", r, f, a, got, code)
				}
			}
			counts[len(lifts)]++
			if got, code := impl.SimpleRoots(r, f); !slices.Equal(got, lifts) || code != impl.ErrNone {
				t.Fatal("SimpleRoots", r, f, got, code, lifts)
			}
		}
	}
	for count := range impl.MaxDegree + 1 {
		if counts[count] < 5 {
			t.Error("polynomials with as many simple roots", count, counts)
		}
	}
}

// TestPromise12LiftsAreAmongAllRoots looks in small rings at all residues with the remainder of a lift.
func TestPromise12LiftsAreAmongAllRoots(t *testing.T) {
	for r, m := range validRings() {
		if m > 3000 {
			continue
		}
		for _, f := range rootPolynomials(r.Prime) {
			lifts, code := impl.SimpleRoots(r, f)
			if code != impl.ErrNone {
				t.Fatal("SimpleRoots", r, f, code)
			}
			for _, lift := range lifts {
				for x := lift % r.Prime; x < m; x += r.Prime {
					if got, code := impl.ValueInRing(r, f, x); (got == 0) != (x == lift) || code != impl.ErrNone {
						t.Fatal("roots with the remainder of a lift", r, f, lift, x, got, code)
					}
				}
			}
		}
	}
}

func TestLiftRoot(t *testing.T) {
	for _, c := range []struct {
		p, precision  int64
		f             []int64
		a, want, code int64
	}{
		{7, 2, []int64{-2, 0, 1}, 3, 10, impl.ErrNone}, {7, 2, []int64{-2, 0, 1}, 4, 39, impl.ErrNone}, {7, 1, []int64{-2, 0, 1}, 3, 3, impl.ErrNone}, {7, 3, []int64{-2, 0, 1}, 3, 108, impl.ErrNone}, {7, 10, []int64{-2, 0, 1}, 3, 266983762, impl.ErrNone},
		// 0 and p - 1: simple roots, multiple roots, and no roots.
		{7, 2, []int64{0, 1, 1}, 0, 0, impl.ErrNone}, {7, 2, []int64{0, 1, 1}, 6, 48, impl.ErrNone}, {7, 2, []int64{0, 0, 1, 1}, 0, 0, impl.ErrState}, {7, 2, []int64{0, 0, 1, 1}, 6, 48, impl.ErrNone}, {7, 2, []int64{1, 2, 1}, 6, 0, impl.ErrState}, {7, 2, []int64{1, 2, 1}, 0, 0, impl.ErrState}, {7, 2, []int64{-2, 0, 1}, 0, 0, impl.ErrState}, {7, 2, []int64{-2, 0, 1}, 6, 0, impl.ErrState}, {7, 2, []int64{-7, 1}, 0, 7, impl.ErrNone}, {7, 2, []int64{8, 1}, 6, 41, impl.ErrNone},
		{2, 29, []int64{0, 1, 1}, 0, 0, impl.ErrNone}, {2, 29, []int64{0, 1, 1}, 1, 536870911, impl.ErrNone}, {2, 1, []int64{1, 1}, 1, 1, impl.ErrNone}, {2, 1, []int64{1, 1}, 0, 0, impl.ErrState}, {2, 29, []int64{-17, 0, 1}, 1, 0, impl.ErrState}, {3, 18, []int64{1, 1}, 2, 387420488, impl.ErrNone}, {97, 4, []int64{1, 1}, 96, 88529280, impl.ErrNone}, {97, 4, []int64{1, 1}, 0, 0, impl.ErrState}, {97, 4, append([]int64{1}, append(make([]int64, 6), 1)...), 96, 88529280, impl.ErrNone},
		// Two roots in the ring that are the same number by p, and another one.
		{7, 2, []int64{8, -9, 1}, 1, 0, impl.ErrState}, {7, 2, []int64{16, -24, 9, -1}, 4, 0, impl.ErrState}, {7, 2, []int64{16, -24, 9, -1}, 1, 1, impl.ErrNone},
		// The prime divides the last coefficient, all of them, or all but the first.
		{7, 2, []int64{1, 1, 7}, 6, 41, impl.ErrNone}, {7, 2, []int64{1, 1, 7}, 0, 0, impl.ErrState}, {7, 2, []int64{0, 7, 7}, 0, 0, impl.ErrState}, {7, 2, []int64{7, 7}, 6, 0, impl.ErrState}, {7, 2, []int64{1, 7}, 0, 0, impl.ErrState}, {7, 1, repeated(49, 9), 3, 0, impl.ErrState},
		// Constants, and 0.
		{7, 2, []int64{7}, 0, 0, impl.ErrState}, {7, 2, []int64{1}, 0, 0, impl.ErrState}, {7, 2, nil, 0, 0, impl.ErrState}, {2, 1, nil, 1, 0, impl.ErrState}, {97, 4, nil, 96, 0, impl.ErrState},
		// Residues that are out of the range, roots or not, come before numbers that are no simple roots.
		{7, 2, []int64{-2, 0, 1}, 10, 0, impl.ErrRange}, {7, 2, []int64{-2, 0, 1}, 39, 0, impl.ErrRange}, {7, 2, []int64{-2, 0, 1}, 7, 0, impl.ErrRange}, {7, 2, []int64{0, 1}, 7, 0, impl.ErrRange}, {7, 2, []int64{0, 1}, 49, 0, impl.ErrRange}, {7, 2, []int64{1, 1}, -1, 0, impl.ErrRange}, {7, 2, []int64{1, 1}, 48, 0, impl.ErrRange}, {7, 1, []int64{0, 1}, 7, 0, impl.ErrRange}, {2, 1, nil, 2, 0, impl.ErrRange},
	} {
		r, _ := ringOf(c.p, c.precision)
		if got, code := impl.LiftRoot(r, c.f, c.a); got != c.want || code != c.code {
			t.Error("LiftRoot", c, got, code)
		}
	}
}

func TestSimpleRoots(t *testing.T) {
	for _, c := range []struct {
		p, precision int64
		f, want      []int64
	}{
		{7, 2, []int64{-2, 0, 1}, []int64{10, 39}}, {7, 1, []int64{-2, 0, 1}, []int64{3, 4}}, {7, 2, []int64{1, 0, 1}, nil}, {2, 29, []int64{-17, 0, 1}, nil}, {2, 29, []int64{0, 1, 1}, []int64{0, 536870911}},
		// The order is that of the numbers by p.
		{7, 2, []int64{16, -10, 1}, []int64{8, 2}}, {7, 2, withRoots(21, 15, 9, 3), []int64{21, 15, 9, 3}}, {7, 1, withRoots(21, 15, 9, 3), []int64{0, 1, 2, 3}}, {3, 2, withRoots(6, 4, 2), []int64{6, 4, 2}}, {2, 2, withRoots(2, 1), []int64{2, 1}}, {97, 4, withRoots(97, 1), []int64{97, 1}},
		// Simple roots beside multiple ones, and multiple ones alone.
		{7, 2, withRoots(0, 0, 1), []int64{1}}, {7, 2, withRoots(0, 7, 1), []int64{1}}, {7, 2, withRoots(1, 1), nil}, {7, 2, withRoots(1, 8), nil}, {3, 2, withRoots(1, 1, 1, 2, 3), []int64{3, 2}},
		// All numbers by p, and as many as the degree.
		{7, 2, []int64{0, -1, 0, 0, 0, 0, 0, 1}, []int64{0, 1, 30, 31, 18, 19, 48}}, {2, 1, []int64{0, 1, 1}, []int64{0, 1}}, {97, 4, withRoots(0, 1, 2, 3, 4, 5, 6, 7), []int64{0, 1, 2, 3, 4, 5, 6, 7}}, {5, 2, withRoots(0, 1, 2, 3, 4, 5, 6, 7), []int64{3, 4}}, {17, 1, append([]int64{-1}, append(make([]int64, 7), 1)...), []int64{1, 2, 4, 8, 9, 13, 15, 16}},
		// The polynomial 0, constants, the degree 1, and multiples of the prime.
		{7, 2, nil, nil}, {2, 1, []int64{}, nil}, {7, 2, []int64{1}, nil}, {7, 2, []int64{7}, nil}, {7, 2, []int64{49}, nil}, {7, 2, []int64{1, 1}, []int64{48}}, {7, 2, []int64{0, 1}, []int64{0}}, {7, 2, []int64{1, 2}, []int64{24}}, {7, 2, []int64{1, 7}, nil}, {7, 2, []int64{0, 7}, nil}, {7, 2, []int64{-14, 0, 7}, nil}, {7, 2, []int64{1, 1, 7}, []int64{41}},
	} {
		r, _ := ringOf(c.p, c.precision)
		if got, code := impl.SimpleRoots(r, c.f); !slices.Equal(got, c.want) || code != impl.ErrNone {
			t.Error("SimpleRoots", c, got, code)
		}
	}
}

// checkAllRoots compares all roots and their number with those that are known.
func checkAllRoots(t *testing.T, r impl.Ring, m int64, f, want []int64) {
	t.Helper()
	count, wantCode := int64(len(want)), int64(impl.ErrNone)
	if count > impl.MaxRoots {
		want, wantCode = nil, impl.ErrLimit
	}
	if got, code := impl.RootsInRing(r, f); !slices.Equal(got, want) || code != wantCode {
		t.Fatal("RootsInRing", r, f, got, code, want, wantCode)
	}
	wantCode = impl.ErrNone
	if m > largestCounted {
		count, wantCode = 0, impl.ErrLimit
	}
	if got, code := impl.CountRootsInRing(r, f); got != count || code != wantCode {
		t.Fatal("CountRootsInRing", r, f, got, code, count, wantCode)
	}
}

// TestAllRootsInRings tries all residues of small rings, and digit after digit in the greater ones.
func TestAllRootsInRings(t *testing.T) {
	counts, left := map[string]int{}, 0
	for r, m := range validRings() {
		for _, f := range append(rootPolynomials(r.Prime), nil) {
			most := impl.MaxRoots
			if m <= largestCounted {
				most = largestCounted
			}
			want, ok := rootsBehind(r, f, 0, 0, most)
			if m <= 1500 {
				want, ok = []int64{}, true
				for x := range m {
					if remainderAt(f, x, m) == 0 {
						want = append(want, x)
					}
				}
			}
			if !ok {
				left++
				continue
			}
			checkAllRoots(t, r, m, f, want)
			switch {
			case len(want) == 0:
				counts["none"]++
			case len(want) == 1:
				counts["one"]++
			case int64(len(want)) == m:
				counts["all"]++
			case len(want) > impl.MaxRoots:
				counts["too many"]++
			case len(want) >= len(f):
				counts["more than the degree"]++
			}
		}
	}
	for _, name := range []string{"none", "one", "all", "too many", "more than the degree"} {
		if counts[name] < 100 {
			t.Error("polynomials with as many roots", name, counts)
		}
	}
	if left > 500 {
		t.Error("polynomials whose roots were not found", left)
	}
}

// TestRootsOfShortPolynomials goes through all polynomials with small coefficients in small rings.
func TestRootsOfShortPolynomials(t *testing.T) {
	for r, m := range validRings() {
		if m > 130 || r.Prime > 11 {
			continue
		}
		for _, f := range shortPolynomials(4, 3) {
			want := []int64{}
			for x := range m {
				if remainderAt(f, x, m) == 0 {
					want = append(want, x)
				}
			}
			checkAllRoots(t, r, m, f, want)
		}
	}
}

// TestRootsOfMultiples divides a power of p out of all coefficients: then each root of the rest, with any
// digits behind it, is a root, and all residues are if the power is a multiple of the modulus.
func TestRootsOfMultiples(t *testing.T) {
	for r, m := range validRings() {
		top, exponent := greatestFactor(r.Prime)
		rest, size := ringOf(r.Prime, max(r.Precision-exponent, 0))
		for _, f := range [][]int64{{1}, {0, 1}, {1, 1}, {1, 1, 1}, {1, 0, 1}, {-1, 0, 1}, {0, 0, 1}, {0, 0, 1, 1}} {
			first, _ := rootsBehind(rest, f, 0, 0, largestCounted)
			count, wantCode := int64(len(first))*(m/size), int64(impl.ErrNone)
			if count > impl.MaxRoots {
				first, wantCode = nil, impl.ErrLimit
			}
			want := []int64{}
			for place := int64(0); len(first) > 0 && place < m; place += size {
				for _, x := range first {
					want = append(want, place+x)
				}
			}
			multiple := product(f, []int64{top})
			if got, code := impl.RootsInRing(r, multiple); !slices.Equal(got, want) || code != wantCode {
				t.Fatal("RootsInRing", r, multiple, got, code, want, wantCode)
			}
			if got, code := impl.CountRootsInRing(r, multiple); m <= largestCounted && (got != count || code != impl.ErrNone) {
				t.Fatal("CountRootsInRing", r, multiple, got, code, count)
			}
		}
	}
}

// everyNumber gives all residues of a ring with the remainder a by m.
func everyNumber(a, m, modulus int64) []int64 {
	list := []int64{}
	for x := a; x < modulus; x += m {
		list = append(list, x)
	}
	return list
}

func TestRootsInRing(t *testing.T) {
	for _, c := range []struct {
		p, precision int64
		f, want      []int64
	}{
		{7, 2, []int64{-2, 0, 1}, []int64{10, 39}}, {7, 2, []int64{1, 0, 1}, nil}, {7, 2, []int64{-7, 0, 1}, nil}, {97, 4, []int64{-5, 1}, []int64{5}}, {97, 4, []int64{1, 1}, []int64{88529280}}, {7, 2, []int64{16, -10, 1}, []int64{2, 8}}, {2, 29, []int64{-17, 0, 1}, []int64{64169705, 204265751, 332605161, 472701207}}, {3, 18, []int64{1, 1, 1}, nil}, {3, 1, []int64{1, 1, 1}, []int64{1}},
		// More roots than the degree.
		{2, 3, []int64{-1, 0, 1}, []int64{1, 3, 5, 7}}, {3, 2, []int64{0, 3}, []int64{0, 3, 6}}, {3, 2, []int64{0, 0, 1}, []int64{0, 3, 6}}, {5, 2, []int64{10, 5}, []int64{3, 8, 13, 18, 23}}, {2, 29, []int64{0, 1 << 5}, everyNumber(0, 1<<24, 1<<29)}, {2, 29, []int64{1 << 5, 1 << 5}, everyNumber(1<<24-1, 1<<24, 1<<29)},
		// 60 roots, and 59.
		{59, 2, withRoots(0, 0, 1), append([]int64{0, 1}, everyNumber(59, 59, 59*59)...)}, {59, 2, withRoots(0, 0), everyNumber(0, 59, 59*59)}, {59, 5, []int64{0, 59}, everyNumber(0, 59*59*59*59, 59*59*59*59*59)}, {53, 2, withRoots(0, 0, 1, 2, 3, 4, 5, 6), append([]int64{0, 1, 2, 3, 4, 5, 6}, everyNumber(53, 53, 53*53)...)},
		// All residues.
		{2, 1, nil, []int64{0, 1}}, {59, 1, nil, everyNumber(0, 1, 59)}, {7, 2, nil, everyNumber(0, 1, 49)}, {2, 5, []int64{}, everyNumber(0, 1, 32)}, {59, 1, []int64{59}, everyNumber(0, 1, 59)}, {2, 5, []int64{32, 64, -32}, everyNumber(0, 1, 32)}, {2, 1, []int64{0, 1, 1}, []int64{0, 1}}, {7, 1, []int64{0, -1, 0, 0, 0, 0, 0, 1}, everyNumber(0, 1, 7)}, {2, 2, withRoots(0, 1, 2, 3), everyNumber(0, 1, 4)}, {3, 2, withRoots(0, 1, 2, 3, 4, 5), everyNumber(0, 1, 9)}, {2, 5, product(withRoots(0, 1, 2, 3), []int64{4}), everyNumber(0, 1, 32)}, {7, 2, product([]int64{0, -1, 0, 0, 0, 0, 0, 1}, []int64{7}), everyNumber(0, 1, 49)}, {2, 4, withRoots(0, 1, 2, 3, 4, 5, 6, 7), everyNumber(0, 1, 16)}, {2, 3, []int64{0, 2, -1, -2, 1}, everyNumber(0, 1, 8)},
		// Constants that the modulus does not divide.
		{2, 1, []int64{1}, nil}, {2, 29, []int64{1 << 19}, nil}, {97, 4, []int64{97 * 97 * 97}, nil}, {97, 4, []int64{-1}, nil}, {7, 2, []int64{7}, nil},
	} {
		r, _ := ringOf(c.p, c.precision)
		if got, code := impl.RootsInRing(r, c.f); !slices.Equal(got, c.want) || code != impl.ErrNone {
			t.Error("RootsInRing", c, got, code)
		}
	}
}

// TestSixtyRoots gives polynomials with exactly MaxRoots roots, and with 61 or more.
func TestSixtyRoots(t *testing.T) {
	for _, c := range []struct {
		p, precision int64
		f            []int64
		count        int
	}{
		{59, 2, withRoots(0, 0, 1), 60}, {59, 2, withRoots(1, 1, 0), 60}, {29, 2, withRoots(0, 0, 1, 1, 2, 3), 60}, {29, 2, withRoots(2, 2, 3, 3, 0, 1), 60}, {19, 2, withRoots(0, 0, 1, 1, 2, 2, 3, 4), 59}, {2, 5, nil, 32}, {3, 3, nil, 27}, {53, 1, nil, 53}, {59, 1, nil, 59},
		{61, 1, nil, 61}, {61, 1, []int64{61}, 61}, {61, 2, withRoots(0, 0), 61}, {59, 2, withRoots(0, 0, 1, 2), 61}, {29, 2, withRoots(0, 0, 1, 1, 2, 3, 4), 61}, {53, 2, withRoots(0, 0, 1, 1), 106}, {2, 6, nil, 64}, {3, 4, nil, 81}, {2, 6, []int64{64}, 64}, {2, 7, []int64{0, 64}, 64}, {61, 5, []int64{61, 61}, 61},
	} {
		r, m := ringOf(c.p, c.precision)
		got, code := impl.RootsInRing(r, c.f)
		if c.count > impl.MaxRoots {
			if len(got) != 0 || code != impl.ErrLimit {
				t.Error("RootsInRing", c, got, code)
			}
		} else if len(got) != c.count || code != impl.ErrNone {
			t.Error("RootsInRing", c, got, code)
		}
		if count, code := impl.CountRootsInRing(r, c.f); m <= largestCounted && (count != int64(c.count) || code != impl.ErrNone) {
			t.Error("CountRootsInRing", c, count, code)
		}
	}
}

// TestRootsInTheGreatestRings gives many more roots than can be listed, and few behind many that are
// roots by a smaller power only.
func TestRootsInTheGreatestRings(t *testing.T) {
	for p, precision := range greatestRings() {
		r, _ := ringOf(p, precision)
		for _, f := range [][]int64{nil, append(make([]int64, 8), 1), append(make([]int64, 4), p), withRoots(0, 0, 0, 1)} {
			if got, code := impl.RootsInRing(r, f); len(got) != 0 || code != impl.ErrLimit {
				t.Error("RootsInRing", r, f, got, code)
			}
		}
	}
	for _, c := range []struct {
		p, precision int64
		f, want      []int64
	}{
		{2, 29, append([]int64{-3 << 18}, append(make([]int64, 7), 1)...), nil}, {2, 29, []int64{1 << 19, 0, 1 << 19, 0, 1 << 19}, nil}, {2, 29, []int64{-5 << 16, 0, 1}, nil}, {3, 18, []int64{-2 * 59049, 0, 1}, nil}, {97, 4, []int64{-5 * 9409, 0, 1}, nil}, {97, 4, []int64{-97, 0, 0, 0, 0, 0, 0, 0, 1}, nil}, {31, 6, []int64{-31, 0, 1}, nil},
	} {
		r, _ := ringOf(c.p, c.precision)
		if got, code := impl.RootsInRing(r, c.f); !slices.Equal(got, c.want) || code != impl.ErrNone {
			t.Error("RootsInRing", c, got, code)
		}
	}
}

func TestCountRootsInRing(t *testing.T) {
	for _, c := range []struct {
		p, precision int64
		f            []int64
		want, code   int64
	}{
		{7, 2, []int64{-2, 0, 1}, 2, impl.ErrNone}, {7, 2, []int64{1, 0, 1}, 0, impl.ErrNone}, {2, 3, []int64{-1, 0, 1}, 4, impl.ErrNone}, {2, 1, nil, 2, impl.ErrNone}, {97, 1, nil, 97, impl.ErrNone}, {97, 2, nil, 9409, impl.ErrNone}, {97, 2, []int64{97}, 0, impl.ErrNone}, {97, 2, []int64{0, 97}, 97, impl.ErrNone},
		// The greatest moduli of at most 100000, and the least ones beyond.
		{2, 16, nil, 65536, impl.ErrNone}, {2, 17, nil, 0, impl.ErrLimit}, {3, 10, nil, 59049, impl.ErrNone}, {3, 11, nil, 0, impl.ErrLimit}, {5, 7, nil, 78125, impl.ErrNone}, {5, 8, nil, 0, impl.ErrLimit}, {17, 4, nil, 83521, impl.ErrNone}, {17, 5, nil, 0, impl.ErrLimit}, {43, 3, nil, 79507, impl.ErrNone}, {47, 3, nil, 0, impl.ErrLimit}, {47, 3, []int64{1}, 0, impl.ErrLimit}, {47, 3, []int64{0, 1}, 0, impl.ErrLimit}, {47, 2, []int64{0, 1}, 1, impl.ErrNone}, {97, 3, nil, 0, impl.ErrLimit}, {97, 4, []int64{0, 1}, 0, impl.ErrLimit}, {2, 29, []int64{0, 1}, 0, impl.ErrLimit},
		// Many roots of the degree 8.
		{2, 16, append(make([]int64, 8), 1), 16384, impl.ErrNone}, {17, 4, append(make([]int64, 8), 1), 4913, impl.ErrNone}, {3, 10, append(make([]int64, 8), 1), 6561, impl.ErrNone}, {2, 16, withRoots(0, 1, 2, 3, 4, 5, 6, 7), 128, impl.ErrNone},
	} {
		r, _ := ringOf(c.p, c.precision)
		if got, code := impl.CountRootsInRing(r, c.f); got != c.want || code != c.code {
			t.Error("CountRootsInRing", c, got, code)
		}
	}
	for r, m := range validRings() {
		wantCode := int64(impl.ErrNone)
		if m > largestCounted {
			wantCode = impl.ErrLimit
		}
		if _, code := impl.CountRootsInRing(r, []int64{1, 1}); code != wantCode {
			t.Error("CountRootsInRing", r, code)
		}
	}
}

// countSquareRoots gives the number of square roots of p to the power of e times a unit, or of 0: with
// the half of e as power they are this power of p times a square root of the unit, with any digits
// where these make no difference.
func countSquareRoots(r impl.Ring, m, a int64) int64 {
	if a == 0 {
		_, count := ringOf(r.Prime, r.Precision/2)
		return count
	}
	e := int64(0)
	for a%r.Prime == 0 {
		a /= r.Prime
		e++
	}
	if e%2 == 1 {
		return 0
	}
	_, free := ringOf(r.Prime, e/2)
	if r.Prime > 2 {
		if exactPower(a, (r.Prime-1)/2, r.Prime) != 1 {
			return 0
		}
		return 2 * free
	}
	// By 8 and greater powers of 2 the squares of units are 1 by 8, and each has 4 square roots.
	size := int64(1) << min(r.Precision-e, 3)
	if (a-1)%size != 0 {
		return 0
	}
	return free * max(size/2, 1)
}

// TestSquareRootsInRings finds by a formula how many there are.
func TestSquareRootsInRings(t *testing.T) {
	counts := map[int64]int{}
	for r, m := range validRings() {
		list := residuesOf(r, m)
		for _, x := range residuesOf(r, m) {
			list = append(list, x*x%m, x*r.Prime%m*r.Prime%m)
		}
		for _, a := range list {
			want := countSquareRoots(r, m, a)
			counts[want]++
			roots, code := impl.SquareRootsOf(r, a)
			if want > impl.MaxRoots {
				if len(roots) != 0 || code != impl.ErrLimit {
					t.Fatal("SquareRootsOf", r, a, roots, code, want)
				}
				continue
			}
			if int64(len(roots)) != want || code != impl.ErrNone {
				t.Fatal("SquareRootsOf", r, a, roots, code, want)
			}
			for i, x := range roots {
				if x < 0 || x >= m || x*x%m != a || i > 0 && x <= roots[i-1] {
					t.Fatal("SquareRootsOf", r, a, roots)
				}
			}
		}
	}
	if counts[0] < 1000 || counts[1] < 20 || counts[2] < 1000 || counts[4] < 100 || counts[32] < 10 || counts[58] < 10 || counts[62] < 10 {
		t.Error("residues with as many square roots", counts)
	}
}

// TestSquareRootsAreAllOfThem tries all residues of small rings.
func TestSquareRootsAreAllOfThem(t *testing.T) {
	for r, m := range validRings() {
		if m > 10000 {
			continue
		}
		roots := map[int64][]int64{}
		for x := range m {
			roots[x*x%m] = append(roots[x*x%m], x)
		}
		for a := range m {
			want, wantCode := roots[a], int64(impl.ErrNone)
			if len(want) > impl.MaxRoots {
				want, wantCode = nil, impl.ErrLimit
			}
			if got, code := impl.SquareRootsOf(r, a); !slices.Equal(got, want) || code != wantCode {
				t.Fatal("SquareRootsOf", r, a, got, code, want, wantCode)
			}
		}
	}
}

func TestSquareRootsOf(t *testing.T) {
	for _, c := range []struct {
		p, precision, a int64
		want            []int64
		code            int64
	}{
		{7, 2, 2, []int64{10, 39}, impl.ErrNone}, {7, 2, 3, nil, impl.ErrNone}, {7, 2, 1, []int64{1, 48}, impl.ErrNone}, {7, 2, 48, nil, impl.ErrNone}, {7, 2, 7, nil, impl.ErrNone}, {7, 2, 0, everyNumber(0, 7, 49), impl.ErrNone}, {7, 1, 0, []int64{0}, impl.ErrNone}, {97, 1, 96, []int64{22, 75}, impl.ErrNone}, {97, 4, 0, nil, impl.ErrLimit}, {59, 3, 0, everyNumber(0, 59*59, 59*59*59), impl.ErrNone}, {61, 2, 0, nil, impl.ErrLimit}, {61, 1, 0, []int64{0}, impl.ErrNone},
		// The prime 2.
		{2, 1, 0, []int64{0}, impl.ErrNone}, {2, 1, 1, []int64{1}, impl.ErrNone}, {2, 2, 0, []int64{0, 2}, impl.ErrNone}, {2, 2, 1, []int64{1, 3}, impl.ErrNone}, {2, 2, 2, nil, impl.ErrNone}, {2, 2, 3, nil, impl.ErrNone}, {2, 3, 0, []int64{0, 4}, impl.ErrNone}, {2, 3, 1, []int64{1, 3, 5, 7}, impl.ErrNone}, {2, 3, 4, []int64{2, 6}, impl.ErrNone}, {2, 3, 5, nil, impl.ErrNone}, {2, 29, 17, []int64{64169705, 204265751, 332605161, 472701207}, impl.ErrNone}, {2, 29, 5, nil, impl.ErrNone}, {2, 29, 1, []int64{1, 1<<28 - 1, 1<<28 + 1, 1<<29 - 1}, impl.ErrNone}, {2, 10, 0, everyNumber(0, 32, 1024), impl.ErrNone}, {2, 11, 0, everyNumber(0, 64, 2048), impl.ErrNone}, {2, 12, 0, nil, impl.ErrLimit}, {2, 29, 0, nil, impl.ErrLimit}, {2, 29, 1 << 28, nil, impl.ErrLimit}, {2, 29, 1 << 27, nil, impl.ErrNone},
		// Residues that are greater than the coefficients of polynomials.
		{97, 4, 25, []int64{5, 88529276}, impl.ErrNone}, {31, 6, 887503680, nil, impl.ErrNone}, {3, 18, 387420488, nil, impl.ErrNone}, {5, 12, 244140624, []int64{120813568, 123327057}, impl.ErrNone},
	} {
		r, _ := ringOf(c.p, c.precision)
		if got, code := impl.SquareRootsOf(r, c.a); !slices.Equal(got, c.want) || code != c.code {
			t.Error("SquareRootsOf", c, got, code)
		}
	}
}

// rootCall is a function of a ring, a polynomial and perhaps a residue. It tells whether its result
// beside the code is 0, false or empty.
type rootCall struct {
	name       string
	hasResidue bool
	ask        func(r impl.Ring, f []int64, x int64) (isZero bool, code int64)
}

func rootCalls() []rootCall {
	return []rootCall{
		{"ValueInRing", true, func(r impl.Ring, f []int64, x int64) (bool, int64) {
			got, code := impl.ValueInRing(r, f, x)
			return got == 0, code
		}},
		{"NewtonStep", true, func(r impl.Ring, f []int64, x int64) (bool, int64) {
			got, code := impl.NewtonStep(r, f, x)
			return got == 0, code
		}},
		{"LiftRoot", true, func(r impl.Ring, f []int64, x int64) (bool, int64) {
			got, code := impl.LiftRoot(r, f, x)
			return got == 0, code
		}},
		{"StableRoot", true, func(r impl.Ring, f []int64, x int64) (bool, int64) {
			got, code := impl.StableRoot(r, f, x)
			return !got, code
		}},
		{"SimpleRoots", false, func(r impl.Ring, f []int64, _ int64) (bool, int64) {
			got, code := impl.SimpleRoots(r, f)
			return len(got) == 0, code
		}},
		{"RootsInRing", false, func(r impl.Ring, f []int64, _ int64) (bool, int64) {
			got, code := impl.RootsInRing(r, f)
			return len(got) == 0, code
		}},
		{"CountRootsInRing", false, func(r impl.Ring, f []int64, _ int64) (bool, int64) {
			got, code := impl.CountRootsInRing(r, f)
			return got == 0, code
		}},
	}
}

// notResidues gives numbers that are no residues by m.
func notResidues(p, m int64) []int64 {
	return append(notValues(), -1, -p, -m, m, m+1, m+p, 2*m, 1<<32+m, impl.MaxValue, -impl.MaxValue)
}

// TestErrorsOfInvalidArguments gives also numbers that are no residues, polynomials that have no roots or
// too many of them, and great rings together with rings and polynomials that are not valid.
func TestErrorsOfInvalidArguments(t *testing.T) {
	numbers := append(notResidues(2, 2), 0, 1, 2, 3)
	for _, c := range rootCalls() {
		for _, r := range invalidRings() {
			for _, f := range [][]int64{nil, {1}, {0, 1}, {-2, 0, 1}, repeated(1, 9), {0}, repeated(1, 10), {largestCoefficient + 1}} {
				for _, x := range numbers {
					if isZero, code := c.ask(r, f, x); !isZero || code != impl.ErrInvalid {
						t.Fatal(c.name, r, f, x, isZero, code)
					}
				}
			}
		}
		for r, m := range validRings() {
			for _, f := range invalidPolynomials() {
				for _, x := range []int64{0, 1 % m, m - 1, r.Prime, m, -1} {
					if isZero, code := c.ask(r, f, x); !isZero || code != impl.ErrInvalid {
						t.Fatal(c.name, r, f, x, isZero, code)
					}
				}
			}
		}
	}
	for _, r := range invalidRings() {
		for _, a := range numbers {
			if got, code := impl.SquareRootsOf(r, a); len(got) != 0 || code != impl.ErrInvalid {
				t.Fatal("SquareRootsOf", r, a, got, code)
			}
		}
	}
}

// TestErrorsOfNoResidues gives numbers that would be simple roots, multiple ones and no roots if they
// were residues.
func TestErrorsOfNoResidues(t *testing.T) {
	for r, m := range validRings() {
		for _, x := range notResidues(r.Prime, m) {
			for _, f := range [][]int64{nil, {1}, {r.Prime}, {0, 1}, {1, 1}, {-1, 1}, {0, 0, 1}, {1, 2, 1}, {-2, 0, 1}, repeated(1, 9)} {
				for _, c := range rootCalls() {
					if isZero, code := c.ask(r, f, x); c.hasResidue && (!isZero || code != impl.ErrRange) {
						t.Fatal(c.name, r, f, x, isZero, code)
					}
				}
			}
			if got, code := impl.SquareRootsOf(r, x); len(got) != 0 || code != impl.ErrRange {
				t.Fatal("SquareRootsOf", r, x, got, code)
			}
		}
		// Residues from p on have no lift.
		for _, a := range []int64{r.Prime, r.Prime + 1, m - r.Prime, m - 1} {
			for _, f := range [][]int64{nil, {1}, {0, 1}, {1, 1}, {-1, 1}, {1, 2, 1}} {
				if got, code := impl.LiftRoot(r, f, a); a >= r.Prime && (got != 0 || code != impl.ErrRange) {
					t.Fatal("LiftRoot", r, f, a, got, code)
				}
			}
		}
	}
}

// TestRootsShareNoMemory overwrites results and asks again.
func TestRootsShareNoMemory(t *testing.T) {
	for r, m := range validRings() {
		for _, f := range append(rootPolynomials(r.Prime), nil) {
			argument, whole := spare(f)
			before := slices.Clone(whole)
			simple, _ := impl.SimpleRoots(r, argument)
			all, _ := impl.RootsInRing(r, argument)
			squares, _ := impl.SquareRootsOf(r, 1%m)
			lists := [][]int64{slices.Clone(simple), slices.Clone(all), slices.Clone(squares)}
			overwrite(simple)
			overwrite(all)
			overwrite(squares)
			for _, x := range []int64{0, 1 % m, m - 1} {
				impl.ValueInRing(r, argument, x)
				impl.NewtonStep(r, argument, x)
				impl.LiftRoot(r, argument, x)
				impl.StableRoot(r, argument, x)
			}
			impl.CountRootsInRing(r, argument)
			if !slices.Equal(whole, before) {
				t.Fatal("an argument was changed", r, whole, before)
			}
			simple, _ = impl.SimpleRoots(r, argument)
			all, _ = impl.RootsInRing(r, argument)
			squares, _ = impl.SquareRootsOf(r, 1%m)
			if !slices.Equal(simple, lists[0]) || !slices.Equal(all, lists[1]) || !slices.Equal(squares, lists[2]) {
				t.Fatal("results share memory", r, f, simple, all, squares, lists)
			}
		}
	}
}

// rootsOf gives what all functions of chapter 11 return for some arguments.
func rootsOf(r impl.Ring) []int64 {
	list := []int64{}
	for _, f := range rootPolynomials(r.Prime) {
		simple, code := impl.SimpleRoots(r, f)
		all, two := impl.RootsInRing(r, f)
		count, three := impl.CountRootsInRing(r, f)
		list = slices.Concat(list, simple, all, []int64{code, two, count, three})
		for x := range r.Prime {
			value, code := impl.ValueInRing(r, f, x)
			next, two := impl.NewtonStep(r, f, x)
			lift, three := impl.LiftRoot(r, f, x)
			stable, four := impl.StableRoot(r, f, x)
			list = append(list, value, code, next, two, lift, three, four)
			if stable {
				list = append(list, 1)
			}
		}
	}
	squares, code := impl.SquareRootsOf(r, 1)
	return append(slices.Clone(squares), append(list, code)...)
}

// TestRootsDependOnArgumentsOnly asks for some rings forwards, backwards, and at the same time.
func TestRootsDependOnArgumentsOnly(t *testing.T) {
	rings := []impl.Ring{{Prime: 2, Precision: 1}, {Prime: 2, Precision: 29}, {Prime: 3, Precision: 1}, {Prime: 3, Precision: 18}, {Prime: 7, Precision: 2}, {Prime: 97, Precision: 1}, {Prime: 97, Precision: 4}}
	want := map[impl.Ring][]int64{}
	for _, r := range rings {
		want[r] = rootsOf(r)
	}
	for _, r := range slices.Backward(rings) {
		if !slices.Equal(rootsOf(r), want[r]) {
			t.Fatal("roots of a second time", r)
		}
	}
	var work sync.WaitGroup
	for range 8 {
		work.Go(func() {
			for _, r := range rings {
				if !slices.Equal(rootsOf(r), want[r]) {
					t.Error("roots at the same time", r)
				}
			}
		})
	}
	work.Wait()
}
