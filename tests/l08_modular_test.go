package tests

import (
	"fmt"
	"math/big"
	"slices"
	"testing"

	"loop.example/g01000/impl"
)

// basePrimes gives all primes in the sense of chapter 1.
func basePrimes() []int64 {
	primes := []int64{}
	for p, prime := range primeTable(impl.MaxPrime) {
		if prime {
			primes = append(primes, int64(p))
		}
	}
	return primes
}

// modularOf gives all polynomials by p with at most length coefficients, by increasing numbers of them.
func modularOf(p int64, length int) [][]int64 {
	list := [][]int64{nil}
	for count := 1; count <= length; count++ {
		for _, f := range digitLists(p, count) {
			if f[count-1] != 0 {
				list = append(list, f)
			}
		}
	}
	return list
}

// someModular gives polynomials by p of each degree: 0, powers of x, those with the greatest
// coefficients, and for each degree as many as wanted with others, half of them monic.
func someModular(p int64, count int) [][]int64 {
	list := [][]int64{nil}
	step := coefficientSteps(uint64(p))
	for length := 1; length <= impl.MaxDegree+1; length++ {
		list = append(list, append(make([]int64, length-1), 1), append(make([]int64, length-1), p-1), repeated(p-1, length), repeated(1, length))
		for i := range count {
			f := make([]int64, length)
			for j := range f {
				f[j] = (step(p) + p) % p
			}
			if i%2 == 0 || f[length-1] == 0 {
				f[length-1] = 1
			}
			list = append(list, f)
		}
	}
	return list
}

// manyModular gives polynomials by each prime, by the least primes also all short ones.
func manyModular() map[int64][][]int64 {
	lists := map[int64][][]int64{}
	for _, p := range basePrimes() {
		lists[p] = someModular(p, 2)
	}
	for p, length := range map[int64]int{2: 7, 3: 4, 5: 3} {
		lists[p] = append(lists[p], modularOf(p, length)...)
	}
	return lists
}

// notModular gives lists that miss each condition for polynomials by p alone, and some that miss several.
func notModular(p int64) [][]int64 {
	list := [][]int64{
		{0}, {0, 0}, {1, 0}, {0, 1, 0}, {p - 1, 0}, make([]int64, 9), make([]int64, 10), append(repeated(1, 8), 0), append(repeated(1, 9), 0),
		repeated(1, 10), append(make([]int64, 9), 1), repeated(p-1, 10), repeated(1, 11), repeated(1, 17), repeated(1, 100), repeated(0, 1000), repeated(p, 10),
	}
	for _, n := range append(notValues(), -1, p, p+1, -p, 2*p, p*p, impl.MaxValue, -impl.MaxValue, 1<<32, 1<<32+1, -1<<32) {
		list = append(list, []int64{n}, []int64{n, 1}, []int64{0, n}, []int64{1, n, 1}, []int64{n, n}, []int64{n, 0}, append(repeated(1, 8), n), append([]int64{n}, repeated(1, 8)...))
	}
	return list
}

// fittedModular gives the polynomial by p with the remainders of these coefficients, or none and
// ErrLimit if there are too many.
func fittedModular(p int64, exact []*big.Int) ([]int64, int64) {
	f := []int64{}
	for _, n := range exact {
		f = append(f, new(big.Int).Mod(n, big.NewInt(p)).Int64())
	}
	for len(f) > 0 && f[len(f)-1] == 0 {
		f = f[:len(f)-1]
	}
	if len(f) > impl.MaxDegree+1 {
		return nil, impl.ErrLimit
	}
	return f, impl.ErrNone
}

// isModularResult tells whether a polynomial and a code are those that are wanted, and the polynomial is one by p.
func isModularResult(p int64, got []int64, code int64, want []int64, wantCode int64) bool {
	return slices.Equal(got, want) && code == wantCode && impl.IsModular(p, got)
}

// exactModular gives a product of polynomials by p, of any degrees up to MaxDegree.
func exactModular(p int64, factors ...[]int64) []int64 {
	product := []int64{1}
	for _, f := range factors {
		product, _ = fittedModular(p, exactProduct(product, f))
	}
	return product
}

// minus gives the polynomial x - a by p.
func minus(p, a int64) []int64 {
	return []int64{(p - a) % p, 1}
}

// monicBy gives a polynomial other than 0 by p times the number that makes the last coefficient 1.
func monicBy(p int64, f []int64) []int64 {
	a := int64(1)
	for a*f[len(f)-1]%p != 1 {
		a++
	}
	return exactModular(p, f, []int64{a})
}

func TestIsModular(t *testing.T) {
	for _, p := range basePrimes() {
		for _, f := range slices.Concat(someModular(p, 4), [][]int64{nil, {}, {1}, {p - 1}, {0, 1}, {p - 1, p - 1}, repeated(p-1, 9), append(make([]int64, 8), 1)}) {
			if !impl.IsModular(p, f) {
				t.Fatal("IsModular", p, f)
			}
		}
		for _, f := range notModular(p) {
			if impl.IsModular(p, f) {
				t.Fatal("IsModular", p, f)
			}
		}
	}
	for _, p := range notPrimes() {
		for _, f := range [][]int64{nil, {}, {1}, {0, 1}, repeated(1, 9), {2}, {0}, repeated(1, 10)} {
			if impl.IsModular(p, f) {
				t.Fatal("IsModular", p, f)
			}
		}
	}
	// The same list is a polynomial by greater primes only.
	for _, p := range basePrimes() {
		if impl.IsModular(p, []int64{52, 0, 1}) != (p >= 53) || impl.IsModular(p, []int64{96, 96}) != (p == 97) {
			t.Error("IsModular", p)
		}
	}
}

func TestReducePolynomial(t *testing.T) {
	const most = largestCoefficient
	list := slices.Concat(shortPolynomials(3, 5), widePolynomials())
	for _, p := range basePrimes() {
		multiples := [][]int64{{p}, {-p}, {0, p}, {1, -p}, {1, p, 2 * p}, {p, 1, p}, {-1}, {p - 1}, {p + 1}, {-p - 1}, {1 - p}, {p * p, p, 1, p}, repeated(p, 9), repeated(-p, 9), repeated(-1, 9), append(repeated(p-1, 8), p), append(repeated(p+1, 8), -2*p)}
		for _, f := range slices.Concat(list, multiples) {
			want, wantCode := fittedModular(p, exactSum(f, nil))
			if got, code := impl.ReducePolynomial(p, f); !isModularResult(p, got, code, want, wantCode) {
				t.Fatal("ReducePolynomial", p, f, got, code, want)
			}
		}
		for _, f := range someModular(p, 4) {
			if got, code := impl.ReducePolynomial(p, f); !isModularResult(p, got, code, f, impl.ErrNone) {
				t.Fatal("ReducePolynomial of a polynomial by p", p, f, got, code)
			}
		}
	}
	for _, c := range []struct {
		p       int64
		f, want []int64
	}{
		{5, []int64{-1, 5, 6}, []int64{4, 0, 1}}, {2, nil, nil}, {97, []int64{}, nil}, {2, []int64{2}, nil}, {2, []int64{-1}, []int64{1}}, {3, []int64{-1, -2, -3}, []int64{2, 1}}, {3, []int64{-1, -2, -3, 0, 3}, []int64{2, 1}}, {3, []int64{0, 0, 3}, nil},
		{97, []int64{97, 98, -1, 96}, []int64{0, 1, 96, 96}}, {97, []int64{-97, -98, 194}, []int64{0, 96}}, {2, repeated(most, 9), nil}, {5, repeated(-most, 9), nil}, {3, []int64{most, -most, most - 1}, []int64{1, 2}}, {7, []int64{most, -most}, []int64{1, 6}}, {97, []int64{most, -most}, []int64{27, 70}},
	} {
		if got, code := impl.ReducePolynomial(c.p, c.f); !isModularResult(c.p, got, code, c.want, impl.ErrNone) {
			t.Error("ReducePolynomial", c.p, c.f, got, code, c.want)
		}
	}
}

func TestErrorsOfReducePolynomial(t *testing.T) {
	for _, p := range append(notPrimes(), 2, 3, 97) {
		for _, f := range invalidPolynomials() {
			if got, code := impl.ReducePolynomial(p, f); len(got) != 0 || code != impl.ErrInvalid {
				t.Fatal("ReducePolynomial", p, f, got, code)
			}
		}
	}
	for _, p := range notPrimes() {
		for _, f := range widePolynomials() {
			if got, code := impl.ReducePolynomial(p, f); len(got) != 0 || code != impl.ErrInvalid {
				t.Fatal("ReducePolynomial", p, f, got, code)
			}
		}
	}
}

// TestProductsByPrimesAreExact also takes products with too many coefficients.
func TestProductsByPrimesAreExact(t *testing.T) {
	codes := map[int64]int{}
	for p, list := range manyModular() {
		for _, f := range list {
			for _, g := range list {
				want, wantCode := fittedModular(p, exactProduct(f, g))
				if got, code := impl.MultiplyModular(p, f, g); !isModularResult(p, got, code, want, wantCode) {
					t.Fatal("MultiplyModular", p, f, g, got, code, want, wantCode)
				}
				codes[wantCode]++
			}
		}
	}
	if codes[impl.ErrNone] < 10000 || codes[impl.ErrLimit] < 10000 {
		t.Error("codes of products", codes)
	}
}

func TestMultiplyModular(t *testing.T) {
	for _, c := range []struct {
		p          int64
		f, g, want []int64
		code       int64
	}{
		{5, []int64{3, 1}, []int64{2, 1}, []int64{1, 0, 1}, impl.ErrNone}, {2, []int64{1, 1}, []int64{1, 1}, []int64{1, 0, 1}, impl.ErrNone}, {3, []int64{2, 2}, []int64{2}, []int64{1, 1}, impl.ErrNone}, {97, []int64{96, 96}, []int64{96, 96}, []int64{1, 2, 1}, impl.ErrNone}, {97, repeated(96, 5), repeated(96, 5), []int64{1, 2, 3, 4, 5, 4, 3, 2, 1}, impl.ErrNone},
		// 0 and 1.
		{2, nil, nil, nil, impl.ErrNone}, {2, nil, []int64{1}, nil, impl.ErrNone}, {97, []int64{}, repeated(96, 9), nil, impl.ErrNone}, {97, []int64{1}, repeated(96, 9), repeated(96, 9), impl.ErrNone}, {97, []int64{96}, repeated(96, 9), repeated(1, 9), impl.ErrNone}, {2, []int64{1}, []int64{1}, []int64{1}, impl.ErrNone},
		// Degrees 8 and 9.
		{2, repeated(1, 5), repeated(1, 5), []int64{1, 0, 1, 0, 1, 0, 1, 0, 1}, impl.ErrNone}, {2, repeated(1, 5), repeated(1, 6), nil, impl.ErrLimit}, {3, repeated(2, 9), repeated(2, 2), nil, impl.ErrLimit}, {3, append(make([]int64, 8), 1), []int64{0, 1}, nil, impl.ErrLimit}, {3, append(make([]int64, 7), 2), []int64{0, 2}, append(make([]int64, 8), 1), impl.ErrNone}, {97, repeated(96, 9), repeated(96, 9), nil, impl.ErrLimit}, {97, repeated(1, 9), []int64{5}, repeated(5, 9), impl.ErrNone},
	} {
		for _, pair := range [][2][]int64{{c.f, c.g}, {c.g, c.f}} {
			if got, code := impl.MultiplyModular(c.p, pair[0], pair[1]); !isModularResult(c.p, got, code, c.want, c.code) {
				t.Error("MultiplyModular", c.p, pair, got, code, c.want, c.code)
			}
		}
	}
}

// TestPromise9DivisionsByPrimes multiplies back with exact integers.
func TestPromise9DivisionsByPrimes(t *testing.T) {
	for p, list := range manyModular() {
		for _, f := range list {
			for _, g := range list {
				if len(g) == 0 {
					continue
				}
				quotient, rest, code := impl.DivideModular(p, f, g)
				if code != impl.ErrNone || !impl.IsModular(p, quotient) || !impl.IsModular(p, rest) || len(rest) >= len(g) || len(quotient) != max(len(f)-len(g)+1, 0) {
					t.Fatal("DivideModular", p, f, g, quotient, rest, code)
				}
				again := exactProduct(g, quotient)
				for i, n := range rest {
					again[i].Add(again[i], big.NewInt(n))
				}
				if back, code := fittedModular(p, again); !slices.Equal(back, f) || code != impl.ErrNone {
					t.Fatal("the divisor times the quotient plus the remainder", p, f, g, quotient, rest, back)
				}
			}
		}
	}
}

func TestDivideModular(t *testing.T) {
	for _, c := range []struct {
		p                    int64
		f, g, quotient, rest []int64
	}{
		{5, []int64{4, 0, 1}, []int64{4, 1}, []int64{1, 1}, nil}, {5, []int64{1, 0, 1}, []int64{4, 1}, []int64{1, 1}, []int64{2}}, {5, []int64{1, 2, 3, 4}, []int64{1, 0, 1}, []int64{3, 4}, []int64{3, 3}},
		// The dividend 0, and divisors of a greater and of an equal degree.
		{2, nil, []int64{1}, nil, nil}, {97, []int64{}, repeated(96, 9), nil, nil}, {97, []int64{7}, []int64{3, 1}, nil, []int64{7}}, {97, []int64{1, 2}, []int64{0, 0, 5}, nil, []int64{1, 2}}, {3, repeated(2, 8), repeated(1, 9), nil, repeated(2, 8)},
		{5, []int64{3, 4}, []int64{1, 1}, []int64{4}, []int64{4}}, {5, []int64{3, 4, 3}, []int64{3, 4, 1}, []int64{3}, []int64{4, 2}}, {5, repeated(4, 9), repeated(1, 9), []int64{4}, nil}, {5, []int64{2, 3, 1}, []int64{2, 3, 1}, []int64{1}, nil}, {2, []int64{1, 1}, []int64{0, 1}, []int64{1}, []int64{1}},
		// Constants, and 1.
		{5, []int64{3}, []int64{4}, []int64{2}, nil}, {5, []int64{3}, []int64{1}, []int64{3}, nil}, {5, []int64{1, 2, 3}, []int64{2}, []int64{3, 1, 4}, nil}, {97, repeated(96, 9), []int64{96}, repeated(1, 9), nil}, {97, []int64{1, 0, 0, 2}, []int64{50}, []int64{33, 0, 0, 66}, nil}, {2, repeated(1, 9), []int64{1}, repeated(1, 9), nil}, {3, []int64{0, 0, 2}, []int64{2}, []int64{0, 0, 1}, nil},
		// Divisors that are not monic.
		{5, []int64{1, 0, 1}, []int64{1, 2}, []int64{1, 3}, nil}, {5, []int64{0, 0, 1}, []int64{1, 2}, []int64{1, 3}, []int64{4}}, {3, []int64{0, 0, 0, 1}, []int64{1, 0, 2}, []int64{0, 2}, []int64{0, 1}}, {97, []int64{1, 0, 0, 0, 0, 0, 0, 0, 96}, []int64{96, 96}, []int64{96, 1, 96, 1, 96, 1, 96, 1}, nil},
		// Powers of x.
		{5, []int64{1, 2, 3}, []int64{0, 1}, []int64{2, 3}, []int64{1}}, {5, []int64{1, 2, 3}, []int64{0, 2}, []int64{1, 4}, []int64{1}}, {5, []int64{0, 0, 3}, []int64{0, 1}, []int64{0, 3}, nil}, {97, repeated(96, 9), []int64{0, 0, 0, 0, 1}, repeated(96, 5), repeated(96, 4)}, {5, []int64{4, 0, 0, 1}, []int64{0, 1}, []int64{0, 0, 1}, []int64{4}}, {5, []int64{0, 4, 0, 0, 1}, []int64{0, 0, 0, 1}, []int64{0, 1}, []int64{0, 4}},
	} {
		quotient, rest, code := impl.DivideModular(c.p, c.f, c.g)
		if !slices.Equal(quotient, c.quotient) || !slices.Equal(rest, c.rest) || code != impl.ErrNone {
			t.Error("DivideModular", c.p, c.f, c.g, quotient, rest, code)
		}
	}
}

// multiplesBy gives, for each text of a polynomial with at most length coefficients, all monic ones
// of which it is a multiple, by increasing degrees.
func multiplesBy(p int64, length int) map[string][][]int64 {
	list := modularOf(p, length)
	divisors := map[string][][]int64{}
	for _, d := range list {
		if len(d) == 0 || d[len(d)-1] != 1 {
			continue
		}
		for _, a := range list {
			if len(a) == 0 || len(d)+len(a)-1 <= length {
				text := fmt.Sprint(exactModular(p, d, a))
				divisors[text] = append(divisors[text], d)
			}
		}
	}
	return divisors
}

// TestCommonDivisorsAreGreatest searches through all divisors of both polynomials.
func TestCommonDivisorsAreGreatest(t *testing.T) {
	for p, length := range map[int64]int{2: 6, 3: 4, 5: 3, 7: 2} {
		divisors := multiplesBy(p, length)
		list := modularOf(p, length)
		for _, f := range list {
			for _, g := range list {
				want := []int64{}
				for _, d := range divisors[fmt.Sprint(f)] {
					isDivisor := slices.ContainsFunc(divisors[fmt.Sprint(g)], func(other []int64) bool { return slices.Equal(d, other) })
					if isDivisor && len(d) > len(want) && len(f)+len(g) > 0 {
						want = d
					}
				}
				if got, code := impl.CommonModular(p, f, g); !isModularResult(p, got, code, want, impl.ErrNone) {
					t.Fatal("CommonModular", p, f, g, got, code, want)
				}
			}
		}
	}
}

// TestPromise9CommonDivisorsDivide divides both polynomials by their common divisor.
func TestPromise9CommonDivisorsDivide(t *testing.T) {
	for _, p := range basePrimes() {
		list := someModular(p, 2)
		for _, f := range list {
			for _, g := range list {
				common, code := impl.CommonModular(p, f, g)
				again, two := impl.CommonModular(p, g, f)
				if code != impl.ErrNone || two != impl.ErrNone || !slices.Equal(common, again) || !impl.IsModular(p, common) {
					t.Fatal("CommonModular", p, f, g, common, code, again, two)
				}
				if len(f) == 0 && len(g) == 0 {
					continue
				}
				if len(common) == 0 || common[len(common)-1] != 1 {
					t.Fatal("CommonModular is not monic", p, f, g, common)
				}
				_, first, code := impl.DivideModular(p, f, common)
				_, second, two := impl.DivideModular(p, g, common)
				if len(first) != 0 || len(second) != 0 || code != impl.ErrNone || two != impl.ErrNone {
					t.Fatal("CommonModular divides not both", p, f, g, common, first, second)
				}
			}
		}
	}
}

// TestCommonDivisorsOfMultiples multiplies one polynomial by two that have no common root because
// the prime does not divide their resultant.
func TestCommonDivisorsOfMultiples(t *testing.T) {
	found := 0
	for _, p := range basePrimes() {
		factors := [][]int64{}
		for _, f := range someModular(p, 2) {
			if 2 <= len(f) && len(f) <= 5 {
				factors = append(factors, f)
			}
		}
		for i, a := range factors {
			b := factors[(i*7+5)%len(factors)]
			if new(big.Int).Mod(exactResultant(a, b), big.NewInt(p)).Sign() == 0 {
				continue
			}
			for _, d := range someModular(p, 1) {
				if len(d) == 0 || len(d) > 5 {
					continue
				}
				found++
				f, g := exactModular(p, d, a), exactModular(p, d, b)
				if got, code := impl.CommonModular(p, f, g); !isModularResult(p, got, code, monicBy(p, d), impl.ErrNone) {
					t.Fatal("CommonModular of multiples", p, d, a, b, got, code)
				}
			}
		}
	}
	if found < 5000 {
		t.Error("common divisors", found)
	}
}

func TestCommonModular(t *testing.T) {
	for _, c := range []struct {
		p          int64
		f, g, want []int64
	}{
		{5, []int64{4, 0, 1}, []int64{4, 1}, []int64{4, 1}}, {5, []int64{4, 0, 1}, []int64{1, 4}, []int64{4, 1}}, {2, []int64{1, 0, 1}, []int64{1, 1}, []int64{1, 1}}, {3, []int64{2, 0, 2}, []int64{1, 0, 1}, []int64{1, 0, 1}},
		// 0 and 0, and 0 and another one.
		{2, nil, nil, nil}, {97, []int64{}, []int64{}, nil}, {2, nil, []int64{1}, []int64{1}}, {97, nil, []int64{96}, []int64{1}}, {5, []int64{}, []int64{2, 3}, []int64{4, 1}}, {97, nil, repeated(96, 9), repeated(1, 9)}, {5, nil, []int64{0, 0, 3}, []int64{0, 0, 1}}, {3, nil, []int64{1, 2, 1}, []int64{1, 2, 1}},
		// Constants, and no common root.
		{2, []int64{1}, []int64{1}, []int64{1}}, {97, []int64{3}, []int64{5}, []int64{1}}, {97, []int64{7}, repeated(96, 9), []int64{1}}, {5, []int64{1, 1}, []int64{2, 1}, []int64{1}}, {3, []int64{1, 0, 1}, []int64{2, 1, 1}, []int64{1}}, {97, []int64{0, 96}, []int64{1, 96}, []int64{1}}, {2, []int64{0, 1}, repeated(1, 9), []int64{1}},
		// A multiple common root, and one that is multiple in one of them.
		{5, []int64{1, 2, 1}, []int64{1, 3, 3, 1}, []int64{1, 2, 1}}, {5, []int64{0, 0, 2}, []int64{0, 0, 0, 3}, []int64{0, 0, 1}}, {5, []int64{0, 0, 2}, []int64{0, 1, 3}, []int64{0, 1}}, {2, []int64{1, 0, 0, 0, 1}, []int64{1, 1, 1, 1}, []int64{1, 1, 1, 1}}, {3, []int64{1, 0, 0, 2}, []int64{1, 1, 1}, []int64{1, 1, 1}},
		// A polynomial and itself, or a multiple of it by a number.
		{97, repeated(96, 9), repeated(96, 9), repeated(1, 9)}, {97, repeated(2, 9), repeated(3, 9), repeated(1, 9)}, {5, []int64{3, 4, 2}, []int64{1, 3, 4}, []int64{4, 2, 1}}, {97, append(make([]int64, 8), 3), append(make([]int64, 6), 5), append(make([]int64, 6), 1)},
	} {
		for _, pair := range [][2][]int64{{c.f, c.g}, {c.g, c.f}} {
			if got, code := impl.CommonModular(c.p, pair[0], pair[1]); !isModularResult(c.p, got, code, c.want, impl.ErrNone) {
				t.Error("CommonModular", c.p, pair, got, code, c.want)
			}
		}
	}
}

// timesX gives the remainder by a monic f of x times a polynomial by p of a smaller degree.
func timesX(p int64, a, f []int64) []int64 {
	moved := append([]int64{0}, a...)
	if len(moved) == len(f) {
		last := moved[len(f)-1]
		for i := range f {
			moved[i] = (moved[i] + (p-last)*f[i]) % p
		}
	}
	for len(moved) > 0 && moved[len(moved)-1] == 0 {
		moved = moved[:len(moved)-1]
	}
	return moved
}

// TestPowersOfXByStepsOfOne multiplies by x again and again.
func TestPowersOfXByStepsOfOne(t *testing.T) {
	for _, p := range basePrimes() {
		for _, f := range someModular(p, 2)[1:] {
			monic := monicBy(p, f)
			want := []int64{1}
			if len(f) == 1 {
				want = nil
			}
			for e := range int64(120) {
				if got, code := impl.PowerOfX(p, e, f); !isModularResult(p, got, code, want, impl.ErrNone) {
					t.Fatal("PowerOfX", p, e, f, got, code, want)
				}
				if len(f) > 1 {
					want = timesX(p, want, monic)
				}
			}
		}
	}
}

// greatExponents gives exponents of which some bits are set or not.
func greatExponents() []int64 {
	list := []int64{impl.MaxValue, impl.MaxValue - 1, impl.MaxValue / 2, impl.MaxValue / 3, 999999937, 1000003, 123456789012, 987654321098}
	for i := 7; i < 40; i++ {
		list = append(list, 1<<i-1, 1<<i, 1<<i+1)
	}
	return list
}

// TestGreatPowersOfX finds out from which power on, and after how many, the powers come again.
func TestGreatPowersOfX(t *testing.T) {
	for p, length := range map[int64]int{2: 9, 3: 6, 7: 4, 97: 3} {
		for _, f := range someModular(p, 4) {
			if len(f) < 2 || len(f) > length {
				continue
			}
			monic := monicBy(p, f)
			powers, places := [][]int64{}, map[string]int64{}
			next := []int64{1}
			for {
				text := fmt.Sprint(next)
				if _, again := places[text]; again {
					break
				}
				places[text] = int64(len(powers))
				powers = append(powers, next)
				next = timesX(p, next, monic)
			}
			begin := places[fmt.Sprint(next)]
			period := int64(len(powers)) - begin
			for _, e := range append(greatExponents(), int64(len(powers))-1, int64(len(powers))) {
				want := powers[min(e, begin+max(e-begin, 0)%period)]
				if got, code := impl.PowerOfX(p, e, f); !isModularResult(p, got, code, want, impl.ErrNone) {
					t.Fatal("PowerOfX", p, e, f, got, code, want, begin, period)
				}
			}
		}
	}
}

// TestPowersOfXNearOneRoot takes the powers of x - a, by which x to the power of e is the first part
// of the sum of all binomials times powers of a and of x - a.
func TestPowersOfXNearOneRoot(t *testing.T) {
	exponents := []int64{0, 1, 2, 3, 7, 8, 9, 96, 97, 98, 1<<33 + 1, 1<<39 - 1, 999999937, 123456789012, impl.MaxValue - 1, impl.MaxValue}
	for _, p := range basePrimes() {
		for _, a := range []int64{0, 1, 2 % p, p / 2, p - 1} {
			f := []int64{1}
			for degree := 1; degree <= impl.MaxDegree; degree++ {
				f = exactModular(p, f, minus(p, a))
				for _, e := range append(exponents, p, p*p, p-1) {
					sum, power := zeros(impl.MaxDegree+1), []int64{1}
					for i := int64(0); i < int64(degree) && i <= e; i++ {
						part := new(big.Int).Binomial(e, i)
						part.Mul(part, new(big.Int).Exp(big.NewInt(a), big.NewInt(e-i), big.NewInt(p)))
						for j, n := range power {
							sum[j].Add(sum[j], new(big.Int).Mul(part, big.NewInt(n)))
						}
						power = exactModular(p, power, minus(p, a))
					}
					want, _ := fittedModular(p, sum)
					if got, code := impl.PowerOfX(p, e, f); !isModularResult(p, got, code, want, impl.ErrNone) {
						t.Fatal("PowerOfX", p, e, f, got, code, want)
					}
				}
			}
		}
	}
}

// TestPowersOfXAtRoots takes polynomials with different roots: there the remainder has the values of the power.
func TestPowersOfXAtRoots(t *testing.T) {
	for _, p := range basePrimes() {
		f := []int64{p - 1}
		roots := []int64{}
		for i := range min(p, impl.MaxDegree) {
			root := (i*i*i + 5*i + 1) % p
			if slices.Contains(roots, root) {
				continue
			}
			roots = append(roots, root)
			f = exactModular(p, f, minus(p, root))
			for _, e := range greatExponents() {
				got, code := impl.PowerOfX(p, e, f)
				if code != impl.ErrNone || len(got) >= len(f) || !impl.IsModular(p, got) {
					t.Fatal("PowerOfX", p, e, f, got, code)
				}
				for _, x := range roots {
					value := new(big.Int).Mod(exactValue(got, x), big.NewInt(p)).Int64()
					if value != exactPower(x, e, p) {
						t.Fatal("PowerOfX at a root", p, e, f, got, x)
					}
				}
			}
		}
	}
}

func TestPowerOfX(t *testing.T) {
	for _, c := range []struct {
		p, e    int64
		f, want []int64
	}{
		{5, 5, []int64{1, 0, 1}, []int64{0, 1}},
		// The exponents 0 and 1, by constants, by polynomials of the degree 1 and by greater ones.
		{2, 0, []int64{1}, nil}, {97, 0, []int64{96}, nil}, {97, 1, []int64{5}, nil}, {97, impl.MaxValue, []int64{5}, nil}, {5, 0, []int64{3, 1}, []int64{1}}, {5, 0, []int64{3, 2}, []int64{1}}, {5, 0, []int64{0, 1}, []int64{1}}, {97, 0, repeated(96, 9), []int64{1}}, {5, 1, []int64{0, 1}, nil}, {5, 1, []int64{0, 3}, nil}, {5, 1, []int64{3, 1}, []int64{2}}, {5, 1, []int64{3, 2}, []int64{1}}, {97, 1, []int64{1, 0, 5}, []int64{0, 1}}, {97, 1, repeated(96, 9), []int64{0, 1}}, {2, 1, []int64{1, 1}, []int64{1}},
		// The degree, and the one before it.
		{97, 7, repeated(1, 9), append(make([]int64, 7), 1)}, {97, 8, repeated(1, 9), repeated(96, 8)}, {97, 9, repeated(1, 9), []int64{1}}, {3, 2, []int64{1, 1, 2}, []int64{1, 1}}, {5, 8, append(make([]int64, 8), 3), nil}, {5, 7, append(make([]int64, 8), 3), append(make([]int64, 7), 1)}, {5, impl.MaxValue, append(make([]int64, 8), 3), nil},
		// The prime, and its powers.
		{2, 2, []int64{1, 1, 1}, []int64{1, 1}}, {2, 4, []int64{1, 1, 1}, []int64{0, 1}}, {3, 3, []int64{1, 0, 1}, []int64{0, 2}}, {3, 9, []int64{1, 0, 1}, []int64{0, 1}}, {97, 97, []int64{92, 0, 1}, []int64{0, 96}}, {97, 9409, []int64{92, 0, 1}, []int64{0, 1}}, {97, 97, []int64{95, 1}, []int64{2}}, {97, 96, []int64{95, 1}, []int64{1}}, {2, 256, []int64{1, 1, 0, 1, 1, 0, 0, 0, 1}, []int64{0, 1}}, {2, 255, []int64{1, 1, 0, 1, 1, 0, 0, 0, 1}, []int64{1}}, {2, 51, []int64{1, 1, 0, 1, 1, 0, 0, 0, 1}, []int64{1}},
		// The greatest value: a trillion has the remainders 0 by 4 and by 8, and 1 by 3 and by 9.
		{5, impl.MaxValue, []int64{1, 0, 1}, []int64{1}}, {5, impl.MaxValue - 1, []int64{1, 0, 1}, []int64{0, 4}}, {2, impl.MaxValue, []int64{1, 1, 1}, []int64{0, 1}}, {2, impl.MaxValue - 1, []int64{1, 1, 1}, []int64{1}}, {97, impl.MaxValue, repeated(1, 9), []int64{0, 1}}, {97, impl.MaxValue, []int64{1, 0, 0, 0, 0, 0, 0, 0, 1}, []int64{1}}, {5, impl.MaxValue, []int64{3, 1}, []int64{1}},
	} {
		if got, code := impl.PowerOfX(c.p, c.e, c.f); !isModularResult(c.p, got, code, c.want, impl.ErrNone) {
			t.Error("PowerOfX", c.p, c.e, c.f, got, code, c.want)
		}
	}
}

// TestRootsByPrimes evaluates with exact integers.
func TestRootsByPrimes(t *testing.T) {
	counts := map[int]int{}
	check := func(p int64, f []int64) {
		want := []int64{}
		for x := range p {
			if new(big.Int).Mod(exactValue(f, x), big.NewInt(p)).Sign() == 0 {
				want = append(want, x)
			}
		}
		counts[len(want)]++
		if got, code := impl.RootsModular(p, f); !slices.Equal(got, want) || code != impl.ErrNone {
			t.Fatal("RootsModular", p, f, got, code, want)
		}
	}
	for _, p := range basePrimes() {
		for _, f := range someModular(p, 4)[1:] {
			check(p, f)
		}
		for first := range p {
			product := []int64{p - 1}
			for i := range min(p, impl.MaxDegree) {
				product = exactModular(p, product, minus(p, (first+i*7)%p))
				check(p, product)
			}
		}
	}
	for p, length := range map[int64]int{2: 9, 3: 6, 5: 4} {
		for _, f := range modularOf(p, length)[1:] {
			check(p, f)
		}
	}
	for count := range impl.MaxDegree + 1 {
		if counts[count] < 10 {
			t.Error("polynomials with as many roots", count, counts)
		}
	}
}

func TestRootsModular(t *testing.T) {
	for _, c := range []struct {
		p       int64
		f, want []int64
	}{
		{5, []int64{1, 0, 1}, []int64{2, 3}}, {3, []int64{1, 0, 1}, nil}, {2, []int64{1, 1, 1}, nil}, {97, []int64{92, 0, 1}, nil},
		// Constants, and the degree 1.
		{2, []int64{1}, nil}, {97, []int64{96}, nil}, {2, []int64{0, 1}, []int64{0}}, {2, []int64{1, 1}, []int64{1}}, {97, []int64{96, 96}, []int64{96}}, {97, []int64{1, 96}, []int64{1}}, {97, []int64{1, 2}, []int64{48}},
		// All numbers, and multiple roots.
		{2, []int64{0, 1, 1}, []int64{0, 1}}, {3, []int64{0, 2, 0, 1}, []int64{0, 1, 2}}, {5, []int64{0, 4, 0, 0, 0, 1}, []int64{0, 1, 2, 3, 4}}, {7, []int64{0, 1, 0, 0, 0, 0, 0, 6}, []int64{0, 1, 2, 3, 4, 5, 6}}, {2, append(make([]int64, 8), 1), []int64{0}}, {97, []int64{1, 2, 1}, []int64{96}}, {97, []int64{0, 0, 0, 5, 5}, []int64{0, 96}}, {97, []int64{96, 0, 0, 0, 0, 0, 0, 0, 1}, []int64{1, 22, 33, 47, 50, 64, 75, 96}}, {7, []int64{6, 0, 0, 1}, []int64{1, 2, 4}},
	} {
		if got, code := impl.RootsModular(c.p, c.f); !slices.Equal(got, c.want) || code != impl.ErrNone {
			t.Error("RootsModular", c.p, c.f, got, code, c.want)
		}
	}
	for _, p := range basePrimes() {
		for _, zero := range [][]int64{nil, {}} {
			if got, code := impl.RootsModular(p, zero); len(got) != 0 || code != impl.ErrNotFound {
				t.Error("RootsModular of 0", p, got, code)
			}
		}
	}
}

func TestDerivativesByPrimes(t *testing.T) {
	for _, p := range basePrimes() {
		for _, f := range slices.Concat(someModular(p, 20), [][]int64{nil, {}, {1}, {p - 1}, repeated(p-1, 9)}) {
			exact := zeros(9)
			for i := 1; i < len(f); i++ {
				exact[i-1].SetInt64(int64(i) * f[i])
			}
			want, wantCode := fittedModular(p, exact)
			if got, code := impl.DerivativeModular(p, f); !isModularResult(p, got, code, want, wantCode) {
				t.Fatal("DerivativeModular", p, f, got, code, want)
			}
		}
	}
}

func TestDerivativeModular(t *testing.T) {
	for _, c := range []struct {
		p       int64
		f, want []int64
	}{
		{5, []int64{1, 0, 0, 0, 0, 1}, nil}, {2, nil, nil}, {97, []int64{}, nil}, {2, []int64{1}, nil}, {97, []int64{96}, nil}, {97, []int64{3, 5}, []int64{5}}, {97, []int64{0, 0, 96}, []int64{0, 95}}, {97, repeated(96, 9), []int64{96, 95, 94, 93, 92, 91, 90, 89}}, {97, repeated(1, 9), []int64{1, 2, 3, 4, 5, 6, 7, 8}},
		// The degree falls by more than 1.
		{2, []int64{1, 0, 1}, nil}, {2, []int64{1, 1, 1}, []int64{1}}, {2, repeated(1, 9), []int64{1, 0, 1, 0, 1, 0, 1}}, {2, []int64{0, 0, 1, 0, 1, 0, 1, 0, 1}, nil}, {3, []int64{1, 1, 1, 1}, []int64{1, 2}}, {3, []int64{1, 1, 0, 1}, []int64{1}}, {3, []int64{2, 0, 0, 1, 0, 0, 2}, nil}, {3, repeated(2, 7), []int64{2, 1, 0, 2, 1}}, {5, []int64{1, 1, 0, 0, 0, 1}, []int64{1}}, {5, []int64{1, 0, 3, 0, 0, 4}, []int64{0, 1}}, {7, append(make([]int64, 7), 3), nil}, {7, []int64{0, 1, 2, 3, 4, 5, 6, 1}, []int64{1, 4, 2, 2, 4, 1}}, {7, repeated(1, 9), []int64{1, 2, 3, 4, 5, 6, 0, 1}},
	} {
		if got, code := impl.DerivativeModular(c.p, c.f); !isModularResult(c.p, got, code, c.want, impl.ErrNone) {
			t.Error("DerivativeModular", c.p, c.f, got, code, c.want)
		}
	}
}

// TestSquareFreesHaveNoSquares finds all multiples of squares.
func TestSquareFreesHaveNoSquares(t *testing.T) {
	for p, length := range map[int64]int{2: 9, 3: 6, 5: 5, 7: 4} {
		list := modularOf(p, length)
		multiples := map[string]bool{fmt.Sprint([]int64{}): true}
		for _, d := range list {
			if len(d) < 2 || 2*len(d)-1 > length || d[len(d)-1] != 1 {
				continue
			}
			square := exactModular(p, d, d)
			for _, a := range list {
				if len(a) > 0 && len(square)+len(a)-1 <= length {
					multiples[fmt.Sprint(exactModular(p, square, a))] = true
				}
			}
		}
		for _, f := range list {
			if got, code := impl.IsSquareFree(p, f); got != !multiples[fmt.Sprint(f)] || code != impl.ErrNone {
				t.Fatal("IsSquareFree", p, f, got, code)
			}
		}
	}
}

// TestSquareFreesByDiscriminants takes polynomials of the degrees 1 to 4, whose discriminants the
// prime divides exactly if there is a multiple root.
func TestSquareFreesByDiscriminants(t *testing.T) {
	counts := map[bool]int{}
	for _, p := range basePrimes() {
		for _, f := range someModular(p, 60) {
			if len(f) < 2 || len(f) > 5 {
				continue
			}
			want := new(big.Int).Mod(exactDiscriminant(f), big.NewInt(p)).Sign() != 0
			counts[want]++
			if got, code := impl.IsSquareFree(p, f); got != want || code != impl.ErrNone {
				t.Fatal("IsSquareFree", p, f, got, code)
			}
		}
	}
	if counts[true] < 1000 || counts[false] < 300 {
		t.Error("polynomials with and without a multiple root", counts)
	}
}

// TestPowersAreNotSquareFree multiplies squares by all that still fits, and takes p-th powers.
func TestPowersAreNotSquareFree(t *testing.T) {
	for _, p := range basePrimes() {
		for _, d := range someModular(p, 3) {
			for _, a := range someModular(p, 1) {
				if len(d) < 2 || len(a) == 0 || 2*len(d)+len(a)-2 > impl.MaxDegree+1 {
					continue
				}
				f := exactModular(p, d, d, a)
				if got, code := impl.IsSquareFree(p, f); got || code != impl.ErrNone {
					t.Fatal("IsSquareFree", p, f, got, code)
				}
			}
		}
		if p > impl.MaxDegree {
			continue
		}
		for a := range p {
			power := []int64{p - 1}
			for range p {
				power = exactModular(p, power, minus(p, a))
			}
			derivative, _ := impl.DerivativeModular(p, power)
			if got, code := impl.IsSquareFree(p, power); got || code != impl.ErrNone || len(derivative) != 0 {
				t.Fatal("IsSquareFree of a p-th power", p, power, got, code, derivative)
			}
		}
	}
}

func TestIsSquareFree(t *testing.T) {
	for _, c := range []struct {
		p    int64
		f    []int64
		want bool
	}{
		{5, []int64{1, 0, 1}, true}, {5, []int64{1, 2, 1}, false}, {2, nil, false}, {97, []int64{}, false}, {2, []int64{1}, true}, {97, []int64{96}, true}, {97, []int64{2}, true}, {2, []int64{0, 1}, true}, {2, []int64{1, 1}, true}, {97, []int64{96, 96}, true},
		{2, []int64{1, 0, 1}, false}, {2, []int64{1, 1, 1}, true}, {3, []int64{1, 0, 1}, true}, {97, []int64{0, 0, 1}, false}, {97, []int64{0, 0, 96}, false}, {97, []int64{0, 1, 1}, true}, {97, append(make([]int64, 8), 5), false}, {97, repeated(1, 9), true}, {3, repeated(1, 9), false}, {2, repeated(1, 9), true}, {2, repeated(1, 8), false},
		// Powers, and sums whose derivatives are constants.
		{2, []int64{1, 0, 0, 0, 0, 0, 0, 0, 1}, false}, {2, []int64{1, 0, 1, 0, 1}, false}, {3, []int64{2, 0, 0, 1, 0, 0, 1}, false}, {5, []int64{3, 0, 0, 0, 0, 2}, false}, {7, []int64{6, 0, 0, 0, 0, 0, 0, 1}, false}, {5, []int64{1, 1, 0, 0, 0, 1}, true}, {7, []int64{3, 6, 0, 0, 0, 0, 0, 1}, true}, {2, []int64{0, 1, 1, 0, 1, 0, 0, 0, 1}, true}, {97, []int64{96, 0, 0, 0, 0, 0, 0, 0, 1}, true},
	} {
		if got, code := impl.IsSquareFree(c.p, c.f); got != c.want || code != impl.ErrNone {
			t.Error("IsSquareFree", c.p, c.f, got, code)
		}
	}
}

// checkModularErrors gives all functions of two polynomials one pair, and those of one its first.
func checkModularErrors(t *testing.T, p int64, f, g []int64) {
	t.Helper()
	product, code := impl.MultiplyModular(p, f, g)
	quotient, rest, two := impl.DivideModular(p, f, g)
	common, three := impl.CommonModular(p, f, g)
	if len(product) != 0 || len(quotient) != 0 || len(rest) != 0 || len(common) != 0 || code != impl.ErrInvalid || two != impl.ErrInvalid || three != impl.ErrInvalid {
		t.Fatal("errors of two polynomials", p, f, g, product, code, quotient, rest, two, common, three)
	}
}

// checkOneModularError gives all functions of one polynomial an argument that is not valid, also with
// exponents that are out of their range.
func checkOneModularError(t *testing.T, p int64, f []int64) {
	t.Helper()
	for _, e := range append(notValues(), 0, 1, 5, impl.MaxValue, -1) {
		if power, code := impl.PowerOfX(p, e, f); len(power) != 0 || code != impl.ErrInvalid {
			t.Fatal("PowerOfX", p, e, f, power, code)
		}
	}
	roots, code := impl.RootsModular(p, f)
	derivative, two := impl.DerivativeModular(p, f)
	squareFree, three := impl.IsSquareFree(p, f)
	if len(roots) != 0 || len(derivative) != 0 || squareFree || code != impl.ErrInvalid || two != impl.ErrInvalid || three != impl.ErrInvalid {
		t.Fatal("errors of one polynomial", p, f, roots, code, derivative, two, squareFree, three)
	}
}

// TestErrorsOfPolynomialsByPrimes gives also arguments that miss several conditions: the divisor 0,
// products that are too long, exponents out of their range, and the polynomial 0.
func TestErrorsOfPolynomialsByPrimes(t *testing.T) {
	good := [][]int64{nil, {}, {1}, {0, 1}, {1, 1, 1}, repeated(1, 9)}
	for _, p := range notPrimes() {
		for _, f := range slices.Concat(good, notModular(5), [][]int64{{96}, {2, 2}}) {
			for _, g := range good {
				checkModularErrors(t, p, f, g)
				checkModularErrors(t, p, g, f)
			}
			checkOneModularError(t, p, f)
		}
	}
	for _, p := range basePrimes() {
		for _, f := range notModular(p) {
			for _, g := range append(good, f, []int64{0}) {
				checkModularErrors(t, p, f, g)
				checkModularErrors(t, p, g, f)
			}
			checkOneModularError(t, p, f)
		}
	}
}

func TestErrorsOfDivideModular(t *testing.T) {
	for _, p := range basePrimes() {
		for _, f := range someModular(p, 1) {
			for _, zero := range [][]int64{nil, {}} {
				if quotient, rest, code := impl.DivideModular(p, f, zero); len(quotient) != 0 || len(rest) != 0 || code != impl.ErrState {
					t.Fatal("DivideModular by 0", p, f, quotient, rest, code)
				}
			}
		}
	}
}

// TestErrorsOfPowerOfX tells exponents out of their range before the divisor 0.
func TestErrorsOfPowerOfX(t *testing.T) {
	for _, p := range basePrimes() {
		for _, e := range append(notValues(), -1, -2, -p, -impl.MaxValue, -1<<32) {
			for _, f := range append(someModular(p, 1), []int64{}) {
				if got, code := impl.PowerOfX(p, e, f); len(got) != 0 || code != impl.ErrRange {
					t.Fatal("PowerOfX", p, e, f, got, code)
				}
			}
		}
		for _, e := range []int64{0, 1, p, impl.MaxValue} {
			for _, zero := range [][]int64{nil, {}} {
				if got, code := impl.PowerOfX(p, e, zero); len(got) != 0 || code != impl.ErrState {
					t.Fatal("PowerOfX by 0", p, e, got, code)
				}
			}
		}
	}
}

// TestPolynomialsByPrimesShareNoMemory overwrites results of steps that change nothing, among others.
func TestPolynomialsByPrimesShareNoMemory(t *testing.T) {
	const p = 97
	for _, f := range [][]int64{nil, {5}, {1, 1}, {1, 2, 1}, {7, 8, 9, 1}, repeated(1, 5), repeated(2, 7), {0, 0, 0, 0, 0, 0, 1}, repeated(96, 9)} {
		first, wholeFirst := spare(f)
		before := slices.Clone(wholeFirst)
		for _, g := range [][]int64{nil, {1}, {96}, {0, 1}, {1, 96, 1}, repeated(1, 5), repeated(1, 7), repeated(3, 9)} {
			second, wholeSecond := spare(g)
			beforeSecond := slices.Clone(wholeSecond)
			for _, pair := range [][2][]int64{{first, second}, {second, first}, {first, first}} {
				product, _ := impl.MultiplyModular(p, pair[0], pair[1])
				overwrite(product)
				common, _ := impl.CommonModular(p, pair[0], pair[1])
				overwrite(common)
				quotient, rest, _ := impl.DivideModular(p, pair[0], pair[1])
				restBefore := slices.Clone(rest)
				overwrite(quotient)
				if !slices.Equal(rest, restBefore) {
					t.Fatal("quotient and remainder share memory", pair, rest, restBefore)
				}
				overwrite(rest)
			}
			if !slices.Equal(wholeFirst, before) || !slices.Equal(wholeSecond, beforeSecond) {
				t.Fatal("an argument was changed", wholeFirst, before, wholeSecond, beforeSecond)
			}
		}
		for _, e := range []int64{0, 1, 7, impl.MaxValue} {
			power, _ := impl.PowerOfX(p, e, first)
			overwrite(power)
		}
		reduced, _ := impl.ReducePolynomial(p, first)
		overwrite(reduced)
		roots, _ := impl.RootsModular(p, first)
		overwrite(roots)
		derivative, _ := impl.DerivativeModular(p, first)
		overwrite(derivative)
		impl.IsSquareFree(p, first)
		impl.IsModular(p, first)
		if !slices.Equal(wholeFirst, before) {
			t.Fatal("an argument was changed", wholeFirst, before)
		}
	}
}
