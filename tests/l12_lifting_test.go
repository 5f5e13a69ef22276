package tests

import (
	"fmt"
	"math/big"
	"slices"
	"sync"
	"testing"

	"loop.example/g01000/impl"
)

// ringPolynomials gives polynomials in a ring with the modulus m: 0, constants, those of each degree with
// coefficients at the ends of the range, multiples of the prime, powers of the prime as last coefficients,
// and others, half of them monic.
func ringPolynomials(r impl.Ring, m int64) [][]int64 {
	list := someModular(m, 4)
	for power := int64(1); power < m; power *= r.Prime {
		list = append(list, []int64{power}, []int64{1, power}, []int64{power, 1}, append(repeated(m-1, 4), power), append(make([]int64, 8), m-power), append(repeated(power, 8), 1))
	}
	return list
}

// notInRing gives lists that are no polynomials in a ring.
func notInRing(r impl.Ring, m int64) [][]int64 {
	return append(notModular(m), []int64{m}, []int64{1, m}, []int64{m, 1}, []int64{-1, 1}, []int64{-m, 1}, []int64{1, -1}, []int64{m - 1, 0}, []int64{0, 1, m + r.Prime, 1})
}

// coprime tells whether two monic polynomials have no common divisor by p: p does not divide their resultant.
func coprime(p int64, g, h []int64) bool {
	return new(big.Int).Mod(exactResultant(g, h), big.NewInt(p)).Sign() != 0
}

// isMonicList tells whether the last coefficient of a list is 1.
func isMonicList(f []int64) bool {
	return len(f) > 0 && f[len(f)-1] == 1
}

// above gives a monic polynomial by the modulus m with the image f, whose other digits are chosen by a step.
func above(p, m int64, f []int64, step func(bound int64) int64) []int64 {
	list := slices.Clone(f)
	for i := range len(f) - 1 {
		list[i] += (step(m/p) + m/p) % (m / p) * p
	}
	return list
}

// imageBy gives the remainders of coefficients by p without the zeros at their end.
func imageBy(p int64, f []int64) []int64 {
	image, _ := fittedModular(p, exactSum(f, nil))
	return image
}

func TestIsInRing(t *testing.T) {
	for r, m := range validRings() {
		for _, f := range append(ringPolynomials(r, m), nil, []int64{}) {
			if !impl.IsInRing(r, f) {
				t.Fatal("IsInRing", r, f)
			}
		}
		for _, f := range notInRing(r, m) {
			if impl.IsInRing(r, f) {
				t.Fatal("IsInRing", r, f)
			}
		}
	}
	for _, r := range invalidRings() {
		for _, f := range [][]int64{nil, {}, {1}, {0, 1}, repeated(1, 9), {2}, {0}, repeated(1, 10)} {
			if impl.IsInRing(r, f) {
				t.Fatal("IsInRing", r, f)
			}
		}
	}
}

// TestProductsInRingsAreExact also takes products with too many coefficients, and such whose last
// coefficients are 0 by the modulus.
func TestProductsInRingsAreExact(t *testing.T) {
	codes, shorter := map[int64]int{}, 0
	for r, m := range validRings() {
		list := ringPolynomials(r, m)
		for i, f := range list {
			for j := i % 5; j < len(list); j += 5 {
				g := list[j]
				want, wantCode := fittedModular(m, exactProduct(f, g))
				if got, code := impl.MultiplyInRing(r, f, g); !slices.Equal(got, want) || code != wantCode {
					t.Fatal("MultiplyInRing", r, f, g, got, code, want, wantCode)
				}
				codes[wantCode]++
				if len(f) > 0 && len(g) > 0 && wantCode == impl.ErrNone && len(want) < len(f)+len(g)-1 {
					shorter++
				}
			}
		}
	}
	if codes[impl.ErrNone] < 10000 || codes[impl.ErrLimit] < 10000 || shorter < 1000 {
		t.Error("codes of products", codes, shorter)
	}
}

func TestMultiplyInRing(t *testing.T) {
	for _, c := range []struct {
		p, precision int64
		f, g, want   []int64
		code         int64
	}{
		{5, 2, []int64{18, 1}, []int64{7, 1}, []int64{1, 0, 1}, impl.ErrNone}, {2, 1, []int64{1, 1}, []int64{1, 1}, []int64{1, 0, 1}, impl.ErrNone}, {2, 2, []int64{1, 2}, []int64{1, 2}, []int64{1}, impl.ErrNone}, {97, 4, []int64{88529280, 88529280}, []int64{88529280, 88529280}, []int64{1, 2, 1}, impl.ErrNone}, {31, 6, repeated(887503680, 5), repeated(887503680, 5), []int64{1, 2, 3, 4, 5, 4, 3, 2, 1}, impl.ErrNone}, {2, 29, []int64{536870911, 1}, []int64{1, 1}, []int64{536870911, 0, 1}, impl.ErrNone},
		// 0, 1, and products that are 0.
		{2, 1, nil, nil, nil, impl.ErrNone}, {3, 18, nil, []int64{1}, nil, impl.ErrNone}, {97, 4, []int64{}, repeated(97, 9), nil, impl.ErrNone}, {97, 4, []int64{1}, repeated(97, 9), repeated(97, 9), impl.ErrNone}, {3, 2, []int64{3}, []int64{3, 6}, nil, impl.ErrNone}, {3, 2, repeated(3, 9), repeated(6, 9), nil, impl.ErrNone}, {2, 29, []int64{0, 1 << 14}, []int64{0, 1 << 15}, nil, impl.ErrNone}, {2, 29, []int64{0, 1 << 14}, []int64{0, 1 << 14}, []int64{0, 0, 1 << 28}, impl.ErrNone},
		// Exactly MaxDegree + 1 coefficients, and one more.
		{3, 2, repeated(1, 5), repeated(1, 5), []int64{1, 2, 3, 4, 5, 4, 3, 2, 1}, impl.ErrNone}, {3, 2, repeated(1, 5), repeated(1, 6), nil, impl.ErrLimit}, {97, 4, append(make([]int64, 8), 1), []int64{0, 1}, nil, impl.ErrLimit}, {97, 4, append(make([]int64, 7), 1), []int64{0, 5}, append(make([]int64, 8), 5), impl.ErrNone}, {97, 4, repeated(96, 9), repeated(96, 9), nil, impl.ErrLimit}, {97, 1, repeated(1, 9), []int64{5}, repeated(5, 9), impl.ErrNone}, {2, 1, append(make([]int64, 8), 1), []int64{1, 1}, nil, impl.ErrLimit},
		// The last coefficient of the product is 0 by the modulus, which makes it short enough or not.
		{3, 2, append(make([]int64, 8), 3), []int64{1, 3}, append(make([]int64, 8), 3), impl.ErrNone}, {3, 2, append([]int64{1}, append(make([]int64, 7), 3)...), []int64{1, 3}, []int64{1, 3, 0, 0, 0, 0, 0, 0, 3}, impl.ErrNone}, {2, 2, repeated(2, 9), repeated(2, 9), nil, impl.ErrNone}, {2, 2, append(repeated(1, 8), 2), []int64{1, 0, 2}, nil, impl.ErrLimit}, {2, 2, append(repeated(2, 8), 2), []int64{1, 0, 2}, repeated(2, 9), impl.ErrNone}, {97, 2, append(make([]int64, 8), 97), append([]int64{5}, repeated(97, 8)...), append(make([]int64, 8), 485), impl.ErrNone},
	} {
		r, _ := ringOf(c.p, c.precision)
		for _, pair := range [][2][]int64{{c.f, c.g}, {c.g, c.f}} {
			if got, code := impl.MultiplyInRing(r, pair[0], pair[1]); !slices.Equal(got, c.want) || code != c.code {
				t.Error("MultiplyInRing", c, got, code)
			}
		}
	}
}

// TestPromise9DivisionsInRings multiplies back with exact integers.
func TestPromise9DivisionsInRings(t *testing.T) {
	divisions := map[string]int{}
	for r, m := range validRings() {
		list := ringPolynomials(r, m)
		for i, f := range list {
			for j := i % 3; j < len(list); j += 3 {
				g := list[j]
				quotient, rest, code := impl.DivideInRing(r, f, g)
				if !isMonicList(g) {
					divisions["not monic"]++
					if len(quotient) != 0 || len(rest) != 0 || code != impl.ErrState {
						t.Fatal("DivideInRing", r, f, g, quotient, rest, code)
					}
					continue
				}
				if code != impl.ErrNone || !impl.IsInRing(r, quotient) || !impl.IsInRing(r, rest) || len(rest) >= len(g) || len(quotient) != max(len(f)-len(g)+1, 0) {
					t.Fatal("DivideInRing", r, f, g, quotient, rest, code)
				}
				again := exactProduct(g, quotient)
				for i, n := range rest {
					again[i].Add(again[i], big.NewInt(n))
				}
				if back, code := fittedModular(m, again); !slices.Equal(back, f) || code != impl.ErrNone {
					t.Fatal("the divisor times the quotient plus the remainder", r, f, g, quotient, rest, back)
				}
				if len(rest) == 0 {
					divisions["no remainder"]++
				} else {
					divisions["a remainder"]++
				}
			}
		}
	}
	for _, name := range []string{"not monic", "no remainder", "a remainder"} {
		if divisions[name] < 10000 {
			t.Error("divisions", name, divisions)
		}
	}
}

// TestPromise9DivisionsOfProducts divides products, plus some remainder, by one of the factors.
func TestPromise9DivisionsOfProducts(t *testing.T) {
	for r, m := range validRings() {
		list := ringPolynomials(r, m)
		for i, g := range list {
			quotient := list[(i*7+3)%len(list)]
			if !isMonicList(g) || len(quotient) == 0 || len(g)+len(quotient)-1 > impl.MaxDegree+1 {
				continue
			}
			for _, rest := range [][]int64{nil, {1}, {m - 1, m - 1}, {0, 0, r.Prime % m, 1}} {
				if len(rest) >= len(g) || !impl.IsInRing(r, rest) {
					continue
				}
				sum := exactProduct(g, quotient)
				for i, n := range rest {
					sum[i].Add(sum[i], big.NewInt(n))
				}
				f, _ := fittedModular(m, sum)
				got, left, code := impl.DivideInRing(r, f, g)
				if !slices.Equal(got, quotient) || !slices.Equal(left, rest) || code != impl.ErrNone {
					t.Fatal("DivideInRing", r, f, g, got, left, code, quotient, rest)
				}
			}
		}
	}
}

func TestDivideInRing(t *testing.T) {
	for _, c := range []struct {
		p, precision         int64
		f, g, quotient, rest []int64
		code                 int64
	}{
		{5, 2, []int64{1, 0, 1}, []int64{18, 1}, []int64{7, 1}, nil, impl.ErrNone}, {5, 2, []int64{2, 0, 1}, []int64{18, 1}, []int64{7, 1}, []int64{1}, impl.ErrNone}, {3, 2, []int64{0, 0, 3}, []int64{1, 1}, []int64{6, 3}, []int64{3}, impl.ErrNone}, {3, 2, []int64{0, 3}, []int64{3, 1}, []int64{3}, nil, impl.ErrNone},
		// The dividend 0, the divisor 1, and divisors of greater and equal degrees.
		{2, 1, nil, []int64{1}, nil, nil, impl.ErrNone}, {97, 4, []int64{}, append(repeated(96, 8), 1), nil, nil, impl.ErrNone}, {2, 29, repeated(536870911, 9), []int64{1}, repeated(536870911, 9), nil, impl.ErrNone}, {97, 4, []int64{7}, []int64{1}, []int64{7}, nil, impl.ErrNone}, {97, 4, []int64{97}, []int64{97, 1}, nil, []int64{97}, impl.ErrNone}, {3, 18, repeated(2, 8), repeated(1, 9), nil, repeated(2, 8), impl.ErrNone}, {3, 18, repeated(2, 9), repeated(1, 9), []int64{2}, nil, impl.ErrNone}, {3, 18, repeated(2, 9), append(make([]int64, 8), 1), []int64{2}, repeated(2, 8), impl.ErrNone}, {5, 2, []int64{18, 1}, []int64{18, 1}, []int64{1}, nil, impl.ErrNone}, {5, 2, []int64{3, 4, 3}, []int64{3, 4, 1}, []int64{3}, []int64{19, 17}, impl.ErrNone},
		// The dividend is not monic, or a power of the prime times one.
		{31, 6, append(make([]int64, 8), 887503680), []int64{1, 1}, []int64{1, 887503680, 1, 887503680, 1, 887503680, 1, 887503680}, []int64{887503680}, impl.ErrNone}, {2, 29, append(make([]int64, 8), 1<<28), []int64{2, 1}, append(make([]int64, 7), 1<<28), nil, impl.ErrNone}, {2, 29, append(make([]int64, 8), 1<<28), []int64{1, 1}, repeated(1<<28, 8), []int64{1 << 28}, impl.ErrNone},
		// Divisors that are not monic, also units, 0, and such whose image is monic or whose square is 1.
		{5, 2, []int64{1, 0, 1}, nil, nil, nil, impl.ErrState}, {5, 2, nil, []int64{}, nil, nil, impl.ErrState}, {5, 2, []int64{1, 0, 1}, []int64{2}, nil, nil, impl.ErrState}, {5, 2, []int64{1, 0, 1}, []int64{5}, nil, nil, impl.ErrState}, {5, 2, []int64{1, 0, 1}, []int64{1, 24}, nil, nil, impl.ErrState}, {5, 2, []int64{1, 0, 1}, []int64{1, 6}, nil, nil, impl.ErrState}, {5, 2, []int64{1}, []int64{1, 1, 5}, nil, nil, impl.ErrState}, {2, 29, []int64{2}, []int64{2}, nil, nil, impl.ErrState}, {97, 4, nil, []int64{1, 0, 0, 0, 0, 0, 0, 0, 98}, nil, nil, impl.ErrState},
	} {
		r, _ := ringOf(c.p, c.precision)
		quotient, rest, code := impl.DivideInRing(r, c.f, c.g)
		if !slices.Equal(quotient, c.quotient) || !slices.Equal(rest, c.rest) || code != c.code {
			t.Error("DivideInRing", c, quotient, rest, code)
		}
	}
}

func TestImageOf(t *testing.T) {
	shorter, none := 0, 0
	for r, m := range validRings() {
		for _, f := range ringPolynomials(r, m) {
			want := imageBy(r.Prime, f)
			if len(f) > 0 && len(want) < len(f) {
				shorter++
			}
			if len(f) > 0 && len(want) == 0 {
				none++
			}
			if got, code := impl.ImageOf(r, f); !isModularResult(r.Prime, got, code, want, impl.ErrNone) {
				t.Fatal("ImageOf", r, f, got, code, want)
			}
		}
	}
	if shorter < 1000 || none < 500 {
		t.Error("images of smaller degrees", shorter, none)
	}
	for _, c := range []struct {
		p, precision int64
		f, want      []int64
	}{
		{5, 2, []int64{18, 1}, []int64{3, 1}}, {2, 1, nil, nil}, {97, 4, []int64{}, nil}, {97, 1, []int64{96, 96}, []int64{96, 96}}, {3, 2, []int64{3}, nil}, {3, 2, []int64{3, 6, 3}, nil}, {3, 2, []int64{4, 8, 6}, []int64{1, 2}}, {2, 29, repeated(536870911, 9), repeated(1, 9)}, {2, 29, append(repeated(1, 8), 536870910), repeated(1, 8)}, {2, 29, repeated(1<<28, 9), nil}, {97, 4, repeated(88529280, 9), repeated(96, 9)}, {97, 4, []int64{97, 98, 0, 9409}, []int64{0, 1}},
	} {
		r, _ := ringOf(c.p, c.precision)
		if got, code := impl.ImageOf(r, c.f); !isModularResult(c.p, got, code, c.want, impl.ErrNone) {
			t.Error("ImageOf", c, got, code)
		}
	}
}

func TestReduceToRing(t *testing.T) {
	const most = largestCoefficient
	list := slices.Concat(shortPolynomials(3, 4), widePolynomials())
	for r, m := range validRings() {
		multiples := [][]int64{{m}, {-m}, {0, m}, {1, -m}, {-1, m, 2 * m}, {m, 1, m}, {-1}, {m - 1}, {m + 1}, {-m - 1}, {1 - m}, {r.Prime}, {-r.Prime}, repeated(m, 9), repeated(-m, 9), repeated(-1, 9), append(repeated(m-1, 8), m), append(repeated(m+1, 8), -2*m)}
		for _, f := range slices.Concat(list, multiples) {
			if !impl.IsPolynomial(f) {
				continue
			}
			want, wantCode := fittedModular(m, exactSum(f, nil))
			if got, code := impl.ReduceToRing(r, f); !slices.Equal(got, want) || code != wantCode || !impl.IsInRing(r, got) {
				t.Fatal("ReduceToRing", r, f, got, code, want)
			}
		}
	}
	for _, c := range []struct {
		p, precision int64
		f, want      []int64
	}{
		{5, 2, []int64{-1, 26}, []int64{24, 1}}, {2, 1, nil, nil}, {97, 4, []int64{}, nil}, {5, 2, []int64{25}, nil}, {5, 2, []int64{0, -25, 50}, nil}, {5, 2, []int64{1, 2, 25}, []int64{1, 2}}, {5, 2, []int64{5, 2, 5}, []int64{5, 2, 5}}, {2, 29, []int64{-1, -1}, []int64{536870911, 536870911}}, {97, 4, []int64{most, -most}, []int64{1000000, 87529281}}, {97, 3, []int64{most, -most}, []int64{87327, 825346}}, {2, 6, repeated(most, 9), nil}, {2, 7, repeated(-most, 9), repeated(64, 9)}, {3, 18, []int64{-3, 0, 1}, []int64{387420486, 0, 1}},
	} {
		r, _ := ringOf(c.p, c.precision)
		if got, code := impl.ReduceToRing(r, c.f); !slices.Equal(got, c.want) || code != impl.ErrNone {
			t.Error("ReduceToRing", c, got, code)
		}
	}
}

// checkPair compares ArePair and LiftPair with the conditions for a pair and for its lifts. Both
// conditions are met by one pair of lifts only.
func checkPair(t *testing.T, r impl.Ring, m int64, f, g, h []int64) bool {
	t.Helper()
	want := isMonicList(g) && isMonicList(h) && len(g) > 1 && len(h) > 1 && len(g)+len(h)-1 == len(f) && slices.Equal(exactModular(r.Prime, g, h), imageBy(r.Prime, f)) && coprime(r.Prime, g, h)
	if got, code := impl.ArePair(r, f, g, h); got != want || code != impl.ErrNone {
		t.Fatal("ArePair", r, f, g, h, got, code, want)
	}
	first, second, code := impl.LiftPair(r, f, g, h)
	if !want {
		if len(first) != 0 || len(second) != 0 || code != impl.ErrState {
			t.Fatal("LiftPair", r, f, g, h, first, second, code)
		}
		return false
	}
	if code != impl.ErrNone || !impl.IsInRing(r, first) || !impl.IsInRing(r, second) || !isMonicList(first) || !isMonicList(second) {
		t.Fatal("LiftPair", r, f, g, h, first, second, code)
	}
	if !slices.Equal(imageBy(r.Prime, first), g) || !slices.Equal(imageBy(r.Prime, second), h) {
		t.Fatal("the images of the lifts are not the pair", r, f, g, h, first, second)
	}
	if back := exactModular(m, first, second); !slices.Equal(back, f) {
		t.Fatal("the product of the lifts is not the polynomial", r, f, g, h, first, second, back)
	}
	return true
}

// TestPromise12LiftsOfPairs takes pairs and others: factors with common divisors, with other images, of
// the degree 0, and some that are not monic.
func TestPromise12LiftsOfPairs(t *testing.T) {
	pairs := map[bool]int{}
	for r, m := range validRings() {
		p := r.Prime
		step := coefficientSteps(uint64(m))
		list := [][]int64{}
		for _, g := range someModular(p, 3)[1:] {
			list = append(list, monicBy(p, g))
		}
		for i, g := range list {
			h := list[(i*11+int(r.Precision))%len(list)]
			for j := 1; j < len(list) && len(g)+len(h)-1 > impl.MaxDegree+1; j++ {
				h = list[(i*11+j*5)%len(list)]
			}
			if len(g)+len(h)-1 > impl.MaxDegree+1 {
				continue
			}
			image := exactModular(p, g, h)
			for _, f := range [][]int64{above(p, m, image, step), above(p, m, image, step), image} {
				pairs[checkPair(t, r, m, f, g, h)]++
				pairs[checkPair(t, r, m, f, h, g)]++
			}
			f := above(p, m, image, step)
			other := append([]int64{(g[0] + 1) % p}, g[1:]...)
			checkPair(t, r, m, f, g, g)
			checkPair(t, r, m, f, image, []int64{1})
			checkPair(t, r, m, f, []int64{1}, image)
			checkPair(t, r, m, f, nil, image)
			checkPair(t, r, m, f, image, nil)
			if len(g) > 1 {
				checkPair(t, r, m, f, other, h)
				checkPair(t, r, m, f, h, other)
			}
			if p > 2 {
				half := (p + 1) / 2
				checkPair(t, r, m, f, exactModular(p, g, []int64{2}), exactModular(p, h, []int64{half}))
				checkPair(t, r, m, f, g, exactModular(p, h, []int64{2}))
				checkPair(t, r, m, f, exactModular(p, g, []int64{p - 1}), h)
			}
		}
	}
	if pairs[true] < 5000 || pairs[false] < 5000 {
		t.Error("pairs", pairs)
	}
}

// TestLiftsAreTheOnlyOnes multiplies all monic polynomials in small rings with each other.
func TestLiftsAreTheOnlyOnes(t *testing.T) {
	for _, c := range []struct {
		r           impl.Ring
		left, right int
	}{
		{impl.Ring{Prime: 2, Precision: 1}, 4, 4}, {impl.Ring{Prime: 2, Precision: 2}, 2, 3}, {impl.Ring{Prime: 2, Precision: 3}, 1, 3}, {impl.Ring{Prime: 2, Precision: 4}, 1, 2}, {impl.Ring{Prime: 3, Precision: 2}, 1, 2}, {impl.Ring{Prime: 5, Precision: 2}, 1, 1}, {impl.Ring{Prime: 7, Precision: 1}, 1, 2},
	} {
		p := c.r.Prime
		_, m := ringOf(p, c.r.Precision)
		lifts := map[string][2][]int64{}
		for _, low := range digitLists(m, c.left) {
			for _, high := range digitLists(m, c.right) {
				first, second := append(low, 1), append(high, 1)
				g, h := imageBy(p, first), imageBy(p, second)
				if !coprime(p, g, h) {
					continue
				}
				f := exactModular(m, first, second)
				key := fmt.Sprint(f, g, h)
				if other, known := lifts[key]; known {
					t.Fatal("more than one pair of lifts", c.r, f, g, h, first, second, other)
				}
				lifts[key] = [2][]int64{first, second}
				got, rest, code := impl.LiftPair(c.r, f, g, h)
				if !slices.Equal(got, first) || !slices.Equal(rest, second) || code != impl.ErrNone {
					t.Fatal("LiftPair", c.r, f, g, h, got, rest, code, first, second)
				}
			}
		}
	}
}

// TestLiftsOfPairsOfRoots compares with the lifts of simple roots, which chapter 11 finds.
func TestLiftsOfPairsOfRoots(t *testing.T) {
	found := 0
	for r, m := range validRings() {
		for _, f := range rootPolynomials(r.Prime) {
			if !isMonicList(f) {
				continue
			}
			inRing, _ := fittedModular(m, exactSum(f, nil))
			for a := range r.Prime {
				root, code := impl.LiftRoot(r, f, a)
				if code != impl.ErrNone || len(f) < 3 {
					continue
				}
				g := minus(r.Prime, a)
				h, _, _ := impl.DivideModular(r.Prime, imageBy(r.Prime, f), g)
				first, _, code := impl.LiftPair(r, inRing, g, h)
				found++
				if !slices.Equal(first, minus(m, root)) || code != impl.ErrNone {
					t.Fatal("LiftPair", r, f, a, root, first, code)
				}
			}
		}
	}
	if found < 5000 {
		t.Error("roots", found)
	}
}

func TestPairsInRings(t *testing.T) {
	eight := append(make([]int64, 8), 1)
	for _, c := range []struct {
		p, precision  int64
		f, g, h       []int64
		isPair        bool
		first, second []int64
		code          int64
		isNotMonic    bool
	}{
		{5, 2, []int64{1, 0, 1}, []int64{3, 1}, []int64{2, 1}, true, []int64{18, 1}, []int64{7, 1}, impl.ErrNone, false}, {5, 2, []int64{1, 0, 1}, []int64{2, 1}, []int64{3, 1}, true, []int64{7, 1}, []int64{18, 1}, impl.ErrNone, false}, {5, 1, []int64{1, 0, 1}, []int64{2, 1}, []int64{3, 1}, true, []int64{2, 1}, []int64{3, 1}, impl.ErrNone, false}, {7, 2, []int64{47, 0, 1}, []int64{4, 1}, []int64{3, 1}, true, []int64{39, 1}, []int64{10, 1}, impl.ErrNone, false}, {97, 4, []int64{88529256, 0, 1}, []int64{5, 1}, []int64{92, 1}, true, []int64{5, 1}, []int64{88529276, 1}, impl.ErrNone, false}, {2, 29, []int64{0, 1, 1}, []int64{1, 1}, []int64{0, 1}, true, []int64{1, 1}, []int64{0, 1}, impl.ErrNone, false}, {2, 29, []int64{0, 536870911, 1}, []int64{1, 1}, []int64{0, 1}, true, []int64{536870911, 1}, []int64{0, 1}, impl.ErrNone, false},
		// Powers of irreducible polynomials, and the degree 8.
		{2, 3, []int64{0, 0, 0, 1, 1}, []int64{0, 0, 0, 1}, []int64{1, 1}, true, []int64{0, 0, 0, 1}, []int64{1, 1}, impl.ErrNone, false}, {2, 2, []int64{2, 1, 1}, []int64{0, 1}, []int64{1, 1}, true, []int64{2, 1}, []int64{3, 1}, impl.ErrNone, false}, {3, 18, []int64{0, 387420488, 0, 0, 0, 0, 0, 1}, []int64{0, 1}, []int64{2, 0, 0, 0, 0, 0, 1}, true, []int64{0, 1}, []int64{387420488, 0, 0, 0, 0, 0, 1}, impl.ErrNone, false}, {97, 4, []int64{88529280, 0, 0, 0, 0, 0, 0, 0, 1}, []int64{96, 0, 0, 0, 1}, []int64{1, 0, 0, 0, 1}, true, []int64{88529280, 0, 0, 0, 1}, []int64{1, 0, 0, 0, 1}, impl.ErrNone, false},
		// A common divisor by the prime, although the polynomial is a product in the ring.
		{3, 2, []int64{0, 3, 1}, []int64{0, 1}, []int64{0, 1}, false, nil, nil, impl.ErrState, false}, {2, 29, []int64{536870911, 0, 1}, []int64{1, 1}, []int64{1, 1}, false, nil, nil, impl.ErrState, false}, {2, 1, []int64{1, 1, 1, 1}, []int64{1, 1}, []int64{1, 0, 1}, false, nil, nil, impl.ErrState, false}, {5, 2, eight, []int64{0, 0, 0, 0, 1}, []int64{0, 0, 0, 0, 1}, false, nil, nil, impl.ErrState, false},
		// The degree 0, and 0.
		{5, 2, []int64{1, 0, 1}, []int64{1}, []int64{1, 0, 1}, false, nil, nil, impl.ErrState, false}, {5, 2, []int64{1, 0, 1}, []int64{1, 0, 1}, []int64{1}, false, nil, nil, impl.ErrState, false}, {5, 2, []int64{1}, []int64{1}, []int64{1}, false, nil, nil, impl.ErrState, false}, {5, 2, []int64{1}, []int64{3, 1}, []int64{2, 1}, false, nil, nil, impl.ErrState, false}, {5, 2, []int64{1, 0, 1}, nil, []int64{2, 1}, false, nil, nil, impl.ErrState, false}, {5, 2, []int64{1, 0, 1}, []int64{2, 1}, nil, false, nil, nil, impl.ErrState, false}, {5, 2, []int64{1, 0, 1}, nil, nil, false, nil, nil, impl.ErrState, false}, {2, 1, []int64{1}, nil, nil, false, nil, nil, impl.ErrState, false}, {97, 4, []int64{1, 1}, []int64{1, 1}, []int64{1}, false, nil, nil, impl.ErrState, false},
		// Not monic, although the product is the image of the polynomial.
		{5, 2, []int64{1, 0, 1}, []int64{1, 2}, []int64{1, 3}, false, nil, nil, impl.ErrState, false}, {5, 2, []int64{1, 0, 1}, []int64{2, 4}, []int64{3, 4}, false, nil, nil, impl.ErrState, false}, {97, 1, []int64{96, 0, 1}, []int64{96, 96}, []int64{1, 96}, false, nil, nil, impl.ErrState, false}, {5, 2, []int64{1, 0, 1}, []int64{3, 1}, []int64{4, 2}, false, nil, nil, impl.ErrState, false},
		// The product is another one.
		{5, 2, []int64{1, 0, 1}, []int64{3, 1}, []int64{1, 1}, false, nil, nil, impl.ErrState, false}, {5, 2, []int64{1, 0, 1}, []int64{3, 1}, []int64{0, 1}, false, nil, nil, impl.ErrState, false}, {5, 2, []int64{1, 5, 1, 1}, []int64{3, 1}, []int64{2, 1}, false, nil, nil, impl.ErrState, false}, {5, 2, []int64{1, 1}, []int64{3, 1}, []int64{2, 1}, false, nil, nil, impl.ErrState, false}, {5, 2, []int64{1, 0, 1}, eight, eight, false, nil, nil, impl.ErrState, false}, {2, 29, []int64{0, 1}, []int64{0, 1}, []int64{1, 1}, false, nil, nil, impl.ErrState, false},
		// The polynomial is not monic, although its image may be, or is 0.
		{5, 2, nil, []int64{3, 1}, []int64{2, 1}, false, nil, nil, impl.ErrState, true}, {5, 2, []int64{6, 0, 6}, []int64{3, 1}, []int64{2, 1}, false, nil, nil, impl.ErrState, true}, {5, 2, []int64{1, 0, 1, 5}, []int64{3, 1}, []int64{2, 1}, false, nil, nil, impl.ErrState, true}, {5, 2, []int64{2, 0, 2}, []int64{3, 1}, []int64{2, 1}, false, nil, nil, impl.ErrState, true}, {5, 2, []int64{24}, nil, nil, false, nil, nil, impl.ErrState, true}, {2, 29, []int64{0, 1, 536870911}, []int64{0, 1}, []int64{1, 1}, false, nil, nil, impl.ErrState, true},
	} {
		r, _ := ringOf(c.p, c.precision)
		wantCode := int64(impl.ErrNone)
		if c.isNotMonic {
			wantCode = impl.ErrState
		}
		if got, code := impl.ArePair(r, c.f, c.g, c.h); got != c.isPair || code != wantCode {
			t.Error("ArePair", c, got, code)
		}
		first, second, code := impl.LiftPair(r, c.f, c.g, c.h)
		if !slices.Equal(first, c.first) || !slices.Equal(second, c.second) || code != c.code {
			t.Error("LiftPair", c, first, second, code)
		}
	}
}

// checkLifts compares LiftAll and SplitOff with the powers of the irreducible factors of the image of f.
func checkLifts(t *testing.T, r impl.Ring, m int64, f []int64, factors []impl.Factor) {
	t.Helper()
	lifts, code := impl.LiftAll(r, f)
	if code != impl.ErrNone || len(lifts) != len(factors) {
		t.Fatal("LiftAll", r, f, lifts, code, factors)
	}
	rest := []int64{1}
	for i, lift := range lifts {
		if !impl.IsInRing(r, lift) || !isMonicList(lift) || !slices.Equal(imageBy(r.Prime, lift), exactFactors(r.Prime, factors[i:i+1])) {
			t.Fatal("the image of a lift is no power of an irreducible factor", r, f, lifts, factors)
		}
		if i > 0 {
			rest = exactModular(m, rest, lift)
		}
	}
	if back := exactModular(m, rest, lifts[0]); !slices.Equal(back, f) {
		t.Fatal("the product of all lifts is not the polynomial", r, f, lifts, back)
	}
	first, others, code := impl.SplitOff(r, f)
	if len(factors) == 1 {
		if len(first) != 0 || len(others) != 0 || code != impl.ErrNotFound {
			t.Fatal("SplitOff", r, f, first, others, code, factors)
		}
		return
	}
	if !slices.Equal(first, lifts[0]) || !slices.Equal(others, rest) || code != impl.ErrNone {
		t.Fatal("SplitOff", r, f, first, others, code, lifts)
	}
}

// TestPromise12LiftsOfAllFactors takes powers of known irreducible polynomials, with other digits above
// their product.
func TestPromise12LiftsOfAllFactors(t *testing.T) {
	counts := map[string]int{}
	for _, p := range basePrimes() {
		irreducible := irreduciblesBy(p, 5)
		choose := choices(p)
		step := coefficientSteps(uint64(p) + 12)
		for r, m := range validRings() {
			if r.Prime != p {
				continue
			}
			for turn := range 80 {
				list, length := []impl.Factor{}, 1
				for range turn%5 + 1 {
					q := irreducible[choose(min(len(irreducible), 6+turn/3))]
					for range choose(2+turn%3) + 1 {
						if length+len(q)-1 <= impl.MaxDegree+1 {
							length += len(q) - 1
							list = joined(p, list, times(1, q...))
						}
					}
				}
				image := exactFactors(p, list)
				checkLifts(t, r, m, above(p, m, image, step), list)
				if turn%8 == 0 {
					checkLifts(t, r, m, image, list)
				}
				counts[fmt.Sprint(len(list), " factors")]++
				if slices.ContainsFunc(list, func(factor impl.Factor) bool { return factor.Times > 1 }) {
					counts["repeated"]++
				}
				if len(list) == 1 && list[0].Times == 1 {
					counts["irreducible"]++
				}
			}
		}
	}
	for _, name := range []string{"1 factors", "2 factors", "3 factors", "4 factors", "repeated", "irreducible"} {
		if counts[name] < 100 {
			t.Error("polynomials with", name, counts)
		}
	}
}

// TestPromise12LiftsOfShortPolynomials goes through all monic polynomials of small degrees in small rings.
func TestPromise12LiftsOfShortPolynomials(t *testing.T) {
	for _, c := range []struct{ p, precision, degree int64 }{{2, 1, 8}, {2, 2, 4}, {2, 3, 3}, {2, 5, 2}, {3, 1, 5}, {3, 2, 3}, {3, 3, 2}, {5, 1, 3}, {5, 2, 2}, {7, 2, 2}, {97, 1, 1}, {97, 2, 1}} {
		r, m := ringOf(c.p, c.precision)
		table := factorTable(c.p, int(c.degree)+1)
		for _, f := range monicOf(m, int(c.degree)+1) {
			checkLifts(t, r, m, f, table[fmt.Sprint(imageBy(c.p, f))])
		}
	}
}

func TestLiftAll(t *testing.T) {
	eight := append(make([]int64, 8), 1)
	for _, c := range []struct {
		p, precision int64
		f            []int64
		want         [][]int64
		code         int64
	}{
		{5, 2, []int64{1, 0, 1}, [][]int64{{7, 1}, {18, 1}}, impl.ErrNone}, {5, 1, []int64{1, 0, 1}, [][]int64{{2, 1}, {3, 1}}, impl.ErrNone}, {7, 2, []int64{47, 0, 1}, [][]int64{{10, 1}, {39, 1}}, impl.ErrNone}, {97, 4, []int64{88529256, 0, 1}, [][]int64{{5, 1}, {88529276, 1}}, impl.ErrNone},
		// The degree 1, irreducible images, and powers of one irreducible polynomial.
		{2, 1, []int64{0, 1}, [][]int64{{0, 1}}, impl.ErrNone}, {2, 29, []int64{536870911, 1}, [][]int64{{536870911, 1}}, impl.ErrNone}, {97, 4, []int64{97, 1}, [][]int64{{97, 1}}, impl.ErrNone}, {3, 18, []int64{1, 0, 1}, [][]int64{{1, 0, 1}}, impl.ErrNone}, {3, 18, []int64{387420487, 3, 1}, [][]int64{{387420487, 3, 1}}, impl.ErrNone}, {3, 2, []int64{0, 3, 1}, [][]int64{{0, 3, 1}}, impl.ErrNone}, {2, 29, []int64{536870911, 0, 1}, [][]int64{{536870911, 0, 1}}, impl.ErrNone}, {2, 29, []int64{536870911, 0, 0, 0, 0, 0, 0, 0, 1}, [][]int64{{536870911, 0, 0, 0, 0, 0, 0, 0, 1}}, impl.ErrNone}, {97, 4, eight, [][]int64{eight}, impl.ErrNone}, {2, 29, []int64{3, 2, 3, 2, 1}, [][]int64{{3, 2, 3, 2, 1}}, impl.ErrNone}, {97, 4, append(repeated(97, 8), 1), [][]int64{append(repeated(97, 8), 1)}, impl.ErrNone},
		// Different factors in their order, and repeated ones.
		{2, 3, []int64{0, 0, 0, 1, 1}, [][]int64{{0, 0, 0, 1}, {1, 1}}, impl.ErrNone}, {2, 3, []int64{0, 1, 3, 3, 1}, [][]int64{{0, 1}, {1, 3, 3, 1}}, impl.ErrNone}, {2, 29, []int64{536870911, 0, 0, 1}, [][]int64{{536870911, 1}, {1, 1, 1}}, impl.ErrNone}, {7, 3, []int64{0, 342, 0, 0, 0, 0, 0, 1}, [][]int64{{0, 1}, {1, 1}, {324, 1}, {325, 1}, {18, 1}, {19, 1}, {342, 1}}, impl.ErrNone}, {3, 18, []int64{0, 0, 1, 0, 0, 1}, [][]int64{{0, 0, 1}, {1, 0, 0, 1}}, impl.ErrNone}, {3, 2, []int64{8, 0, 0, 0, 0, 0, 0, 0, 1}, [][]int64{{1, 1}, {8, 1}, {1, 0, 1}, {8, 4, 1}, {8, 5, 1}}, impl.ErrNone},
		// The degree 0, and polynomials that are not monic.
		{5, 2, []int64{1}, nil, impl.ErrNotFound}, {2, 1, []int64{1}, nil, impl.ErrNotFound}, {97, 4, []int64{1}, nil, impl.ErrNotFound}, {5, 2, nil, nil, impl.ErrState}, {5, 2, []int64{}, nil, impl.ErrState}, {5, 2, []int64{2}, nil, impl.ErrState}, {5, 2, []int64{6}, nil, impl.ErrState}, {5, 2, []int64{5}, nil, impl.ErrState}, {5, 2, []int64{1, 0, 6}, nil, impl.ErrState}, {5, 2, []int64{1, 0, 24}, nil, impl.ErrState}, {5, 2, []int64{1, 0, 1, 5}, nil, impl.ErrState}, {97, 4, repeated(88529280, 9), nil, impl.ErrState}, {97, 4, []int64{0, 98}, nil, impl.ErrState},
	} {
		r, m := ringOf(c.p, c.precision)
		got, code := impl.LiftAll(r, c.f)
		if !slices.EqualFunc(got, c.want, slices.Equal) || code != c.code {
			t.Error("LiftAll", c, got, code)
		}
		first, rest, code := impl.SplitOff(r, c.f)
		if len(c.want) < 2 {
			wantCode := max(c.code, impl.ErrNotFound)
			if len(first) != 0 || len(rest) != 0 || code != wantCode {
				t.Error("SplitOff", c, first, rest, code)
			}
		} else if !slices.Equal(first, c.want[0]) || !slices.Equal(rest, exactModular(m, c.want[1:]...)) || code != impl.ErrNone {
			t.Error("SplitOff", c, first, rest, code)
		}
	}
}

// liftCall is a function of a ring, a polynomial and perhaps one or two others, in the ring or by its
// prime. It tells whether its results beside the code are false or empty.
type liftCall struct {
	name           string
	inRing, images int
	needsMonic     bool
	ask            func(r impl.Ring, f, g, h []int64) (isZero bool, code int64)
}

func liftCalls() []liftCall {
	return []liftCall{
		{"MultiplyInRing", 2, 0, false, func(r impl.Ring, f, g, _ []int64) (bool, int64) {
			got, code := impl.MultiplyInRing(r, f, g)
			return len(got) == 0, code
		}},
		{"DivideInRing", 2, 0, false, func(r impl.Ring, f, g, _ []int64) (bool, int64) {
			got, rest, code := impl.DivideInRing(r, f, g)
			return len(got)+len(rest) == 0, code
		}},
		{"ImageOf", 1, 0, false, func(r impl.Ring, f, _, _ []int64) (bool, int64) {
			got, code := impl.ImageOf(r, f)
			return len(got) == 0, code
		}},
		{"ArePair", 1, 2, true, func(r impl.Ring, f, g, h []int64) (bool, int64) {
			got, code := impl.ArePair(r, f, g, h)
			return !got, code
		}},
		{"LiftPair", 1, 2, true, func(r impl.Ring, f, g, h []int64) (bool, int64) {
			got, rest, code := impl.LiftPair(r, f, g, h)
			return len(got)+len(rest) == 0, code
		}},
		{"SplitOff", 1, 0, true, func(r impl.Ring, f, _, _ []int64) (bool, int64) {
			got, rest, code := impl.SplitOff(r, f)
			return len(got)+len(rest) == 0, code
		}},
		{"LiftAll", 1, 0, true, func(r impl.Ring, f, _, _ []int64) (bool, int64) {
			got, code := impl.LiftAll(r, f)
			return len(got) == 0, code
		}},
	}
}

func TestErrorsOfInvalidRings(t *testing.T) {
	lists := [][]int64{nil, {1}, {0, 1}, {1, 1}, {0, 1, 1}, {2}, {0}, repeated(1, 9), repeated(1, 10)}
	for _, r := range invalidRings() {
		for i, f := range lists {
			for j, g := range lists {
				h := lists[(i+j)%len(lists)]
				for _, c := range liftCalls() {
					if isZero, code := c.ask(r, f, g, h); !isZero || code != impl.ErrInvalid {
						t.Fatal(c.name, r, f, g, h, isZero, code)
					}
				}
			}
			if got, code := impl.ReduceToRing(r, f); len(got) != 0 || code != impl.ErrInvalid {
				t.Fatal("ReduceToRing", r, f, got, code)
			}
		}
	}
}

// TestErrorsOfNoPolynomials gives lists that are no polynomials, one after the other in each place, beside
// others that are valid, not monic, too long together, or no pair.
func TestErrorsOfNoPolynomials(t *testing.T) {
	for r, m := range validRings() {
		p := r.Prime
		ask := func(c liftCall, f, g, h []int64) {
			if isZero, code := c.ask(r, f, g, h); !isZero || code != impl.ErrInvalid {
				t.Fatal(c.name, r, f, g, h, isZero, code)
			}
		}
		good := [][]int64{nil, {1}, {0, 1}, {1, 1}, {0, 1, 1}, {m - 1}, {1, m - 1}, append(make([]int64, 8), 1)}
		goodImages := [][]int64{nil, {1}, {0, 1}, {1, 1}, {p - 1}, {1, p - 1}, append(make([]int64, 8), 1)}
		noImages := append(notModular(p), []int64{p}, []int64{p, 1}, []int64{1, p + 1}, []int64{-1, 1})
		for i, f := range notInRing(r, m) {
			g, h := goodImages[i%len(goodImages)], goodImages[i/3%len(goodImages)]
			for _, c := range liftCalls() {
				ask(c, f, g, h)
				if c.inRing == 2 {
					ask(c, good[i%len(good)], f, nil)
				}
				if c.images == 2 {
					ask(c, f, f, noImages[i%len(noImages)])
				}
			}
		}
		for i, g := range noImages {
			f, h := good[i%len(good)], goodImages[i/3%len(goodImages)]
			for _, c := range liftCalls() {
				if c.images == 2 {
					ask(c, f, g, h)
					ask(c, f, h, g)
					ask(c, f, g, g)
				}
			}
		}
		for _, f := range invalidPolynomials() {
			if got, code := impl.ReduceToRing(r, f); len(got) != 0 || code != impl.ErrInvalid {
				t.Fatal("ReduceToRing", r, f, got, code)
			}
		}
	}
}

// TestErrorsOfPolynomialsThatAreNotMonic gives such ones of all degrees, also 0, beside lists that are a
// pair or none.
func TestErrorsOfPolynomialsThatAreNotMonic(t *testing.T) {
	for r, m := range validRings() {
		lists := [][]int64{nil, {1}, {0, 1}, {1, 1}, {0, 1, 1}}
		for _, f := range ringPolynomials(r, m) {
			if isMonicList(f) {
				continue
			}
			for i, g := range lists {
				for _, c := range liftCalls() {
					if isZero, code := c.ask(r, f, g, lists[(i+1)%len(lists)]); c.needsMonic && (!isZero || code != impl.ErrState) {
						t.Fatal(c.name, r, f, g, isZero, code)
					}
				}
			}
		}
	}
}

// TestLiftsShareNoMemory overwrites results and asks again.
func TestLiftsShareNoMemory(t *testing.T) {
	for r, m := range validRings() {
		step := coefficientSteps(uint64(m) + 1)
		pair := [][]int64{{0, 1}, {1, 1}}
		for _, f := range [][]int64{{0, 1}, above(r.Prime, m, []int64{0, 1, 1}, step), above(r.Prime, m, append(make([]int64, 8), 1), step), above(r.Prime, m, []int64{0, 0, 0, 1, 1}, step), above(r.Prime, m, []int64{0, 1, 0, 0, 1}, step)} {
			argument, whole := spare(f)
			first, wholeFirst := spare(pair[0])
			second, wholeSecond := spare(pair[1])
			all := func() [][]int64 {
				product, _ := impl.MultiplyInRing(r, argument, []int64{1})
				quotient, rest, _ := impl.DivideInRing(r, argument, []int64{1})
				none, left, _ := impl.DivideInRing(r, first, argument)
				one, nothing, _ := impl.DivideInRing(r, argument, argument)
				image, _ := impl.ImageOf(r, argument)
				lift, other, _ := impl.LiftPair(r, argument, first, second)
				split, others, _ := impl.SplitOff(r, argument)
				lifts, _ := impl.LiftAll(r, argument)
				reduced, _ := impl.ReduceToRing(r, first)
				impl.IsInRing(r, argument)
				impl.ArePair(r, argument, first, second)
				return append([][]int64{product, quotient, rest, none, left, one, nothing, image, lift, other, split, others, reduced}, lifts...)
			}
			results := all()
			before := [][]int64{}
			for _, list := range results {
				before = append(before, slices.Clone(list))
			}
			if !overwriteRows(results) {
				t.Fatal("results share memory", r, f)
			}
			if !slices.Equal(whole, append(slices.Clone(f), whole[len(f):]...)) || !slices.Equal(whole[len(f):], wholeFirst[2:]) || !slices.Equal(wholeFirst[:2], pair[0]) || !slices.Equal(wholeSecond[:2], pair[1]) || !slices.Equal(wholeFirst[2:], []int64{71, 72, 73, 74, 75, 76, 77, 78, 79, 80}) || !slices.Equal(wholeSecond[2:], wholeFirst[2:]) {
				t.Fatal("an argument was changed", r, whole, wholeFirst, wholeSecond)
			}
			if again := all(); !slices.EqualFunc(again, before, slices.Equal) {
				t.Fatal("another answer", r, f, again, before)
			}
		}
	}
}

// liftsOf gives what functions of chapter 12 return for some arguments.
func liftsOf(r impl.Ring, m int64) []int64 {
	list := []int64{}
	for i, f := range ringPolynomials(r, m) {
		g := minus(m, int64(i)%m)
		product, code := impl.MultiplyInRing(r, f, g)
		quotient, rest, two := impl.DivideInRing(r, f, g)
		image, three := impl.ImageOf(r, f)
		lift, others, four := impl.SplitOff(r, f)
		lifts, five := impl.LiftAll(r, f)
		list = slices.Concat(list, product, quotient, rest, image, lift, others, []int64{code, two, three, four, five})
		list = slices.Concat(append([][]int64{list}, lifts...)...)
	}
	return list
}

// TestLiftsDependOnArgumentsOnly asks for some rings forwards, backwards, and at the same time.
func TestLiftsDependOnArgumentsOnly(t *testing.T) {
	rings := []impl.Ring{{Prime: 2, Precision: 1}, {Prime: 2, Precision: 29}, {Prime: 3, Precision: 1}, {Prime: 3, Precision: 18}, {Prime: 7, Precision: 2}, {Prime: 97, Precision: 1}, {Prime: 97, Precision: 4}}
	want := map[impl.Ring][]int64{}
	ask := func(r impl.Ring) []int64 {
		_, m := ringOf(r.Prime, r.Precision)
		return liftsOf(r, m)
	}
	for _, r := range rings {
		want[r] = ask(r)
	}
	for _, r := range slices.Backward(rings) {
		if !slices.Equal(ask(r), want[r]) {
			t.Fatal("lifts of a second time", r)
		}
	}
	var work sync.WaitGroup
	for range 8 {
		work.Go(func() {
			for _, r := range rings {
				if !slices.Equal(ask(r), want[r]) {
					t.Error("lifts at the same time", r)
				}
			}
		})
	}
	work.Wait()
}
