package tests

import (
	"cmp"
	"fmt"
	"math"
	"runtime"
	"slices"
	"sync"
	"testing"

	"loop.example/g01000/impl"
)

// times gives a factor.
func times(count int64, f ...int64) impl.Factor {
	return impl.Factor{Polynomial: f, Times: count}
}

func sameFactors(a, b []impl.Factor) bool {
	return slices.EqualFunc(a, b, func(x, y impl.Factor) bool {
		return x.Times == y.Times && slices.Equal(x.Polynomial, y.Polynomial)
	})
}

// digitsValue gives the number whose digits to the base p, beginning with the least, are those of f.
// For equal numbers of coefficients the last digit that differs decides which number is greater.
func digitsValue(p int64, f []int64) int64 {
	value := int64(0)
	for _, n := range slices.Backward(f) {
		value = value*p + n
	}
	return value
}

// joined gives factors with one more, in order; equal ones are made one.
func joined(p int64, list []impl.Factor, more impl.Factor) []impl.Factor {
	list = slices.Clone(list)
	for i, factor := range list {
		if slices.Equal(factor.Polynomial, more.Polynomial) {
			list[i].Times += more.Times
			return list
		}
	}
	list = append(list, more)
	slices.SortFunc(list, func(a, b impl.Factor) int {
		return cmp.Compare(digitsValue(p, a.Polynomial), digitsValue(p, b.Polynomial))
	})
	return list
}

// exactFactors gives a product of factors that is not too long.
func exactFactors(p int64, list []impl.Factor) []int64 {
	product := []int64{1}
	for _, factor := range list {
		for range factor.Times {
			product = exactModular(p, product, factor.Polynomial)
		}
	}
	return product
}

// timesNumber gives a polynomial times one of the numbers 1..p - 1, which take turns.
func timesNumber(p int64, f []int64, turn int) []int64 {
	return exactModular(p, f, []int64{int64(turn)%(p-1) + 1})
}

// choices gives a sequence of indices below a count that repeats itself late.
func choices(seed int64) func(count int) int {
	step := coefficientSteps(uint64(seed))
	return func(count int) int {
		return int(step(1<<20)+1<<20) % count
	}
}

// monicOf gives all monic polynomials by p with 2 to length coefficients, by increasing numbers of them.
func monicOf(p int64, length int) [][]int64 {
	list := [][]int64{}
	for count := 1; count < length; count++ {
		for _, f := range digitLists(p, count) {
			list = append(list, append(f, 1))
		}
	}
	return list
}

// factorTable gives the factors of all monic polynomials with 2 to length coefficients, by their
// texts: what is no product of shorter ones when its turn comes is irreducible.
func factorTable(p int64, length int) map[string][]impl.Factor {
	table := map[string][]impl.Factor{}
	irreducible := [][]int64{}
	for _, f := range monicOf(p, length) {
		if table[fmt.Sprint(f)] == nil {
			irreducible = append(irreducible, f)
			table[fmt.Sprint(f)] = []impl.Factor{times(1, f...)}
		}
		for _, q := range irreducible {
			if len(f)+len(q)-1 <= length {
				table[fmt.Sprint(exactModular(p, f, q))] = joined(p, table[fmt.Sprint(f)], times(1, q...))
			}
		}
	}
	return table
}

// checkFactored compares what all functions of one polynomial return with its factors.
func checkFactored(t *testing.T, p int64, f []int64, want []impl.Factor) {
	t.Helper()
	degrees, part, roots := []int64{}, []int64{1}, int64(0)
	for _, factor := range want {
		degree := int64(len(factor.Polynomial) - 1)
		degrees = append(degrees, repeated(degree, int(factor.Times))...)
		part = exactModular(p, part, factor.Polynomial)
		if degree == 1 {
			roots += factor.Times
		}
	}
	if list, code := impl.FactorModular(p, f); !sameFactors(list, want) || code != impl.ErrNone {
		t.Fatal("FactorModular", p, f, list, code, want)
	}
	if got, code := impl.IsIrreducible(p, f); got != (len(degrees) == 1) || code != impl.ErrNone {
		t.Fatal("IsIrreducible", p, f, got, code, want)
	}
	if got, code := impl.DegreesOf(p, f); !slices.Equal(got, degrees) || code != impl.ErrNone {
		t.Fatal("DegreesOf", p, f, got, code, degrees)
	}
	if got, code := impl.SquareFreePart(p, f); !isModularResult(p, got, code, part, impl.ErrNone) {
		t.Fatal("SquareFreePart", p, f, got, code, part)
	}
	if got, code := impl.SmallestFactor(p, f); !isModularResult(p, got, code, want[0].Polynomial, impl.ErrNone) {
		t.Fatal("SmallestFactor", p, f, got, code, want)
	}
	if got, code := impl.CountRoots(p, f); got != roots || code != impl.ErrNone {
		t.Fatal("CountRoots", p, f, got, code, roots)
	}
	if got, code := impl.ProductOf(p, want); !isModularResult(p, got, code, monicBy(p, f), impl.ErrNone) {
		t.Fatal("ProductOf", p, f, got, code, want)
	}
}

// TestPromise10AllShortPolynomials compares with a table of all products.
func TestPromise10AllShortPolynomials(t *testing.T) {
	known := map[int64][]int{2: {2, 1, 2, 3, 6, 9, 18, 30}, 3: {3, 3, 8, 18, 48, 116, 312}, 5: {5, 10, 40, 150}, 7: {7, 21, 112}, 11: {11, 55}, 97: {97, 4656}}
	for p, wantCounts := range known {
		table := factorTable(p, len(wantCounts)+1)
		counts := make([]int, len(wantCounts))
		for i, f := range monicOf(p, len(wantCounts)+1) {
			want := table[fmt.Sprint(f)]
			if len(want) == 1 && want[0].Times == 1 {
				counts[len(f)-2]++
			}
			checkFactored(t, p, timesNumber(p, f, i), want)
		}
		if !slices.Equal(counts, wantCounts) {
			t.Error("irreducible polynomials of each degree", p, counts)
		}
	}
}

// frobeniusRows gives the remainders of the powers 0, p, 2p, ... of x by a monic f.
func frobeniusRows(p int64, f []int64) [][]int64 {
	rows := [][]int64{}
	power := []int64{1}
	for range len(f) - 1 {
		rows = append(rows, append(slices.Clone(power), make([]int64, len(f)-1-len(power))...))
		for range p {
			power = timesX(p, power, f)
		}
	}
	return rows
}

// exactRank gives the rank of a matrix by p, whose rows it changes.
func exactRank(p int64, rows [][]int64) int {
	rank := 0
	for column := range rows {
		pivot := slices.IndexFunc(rows[rank:], func(row []int64) bool { return row[column] != 0 })
		if pivot < 0 {
			continue
		}
		rows[rank], rows[rank+pivot] = rows[rank+pivot], rows[rank]
		inverse := exactPower(rows[rank][column], p-2, p)
		for _, row := range rows[rank+1:] {
			factor := row[column] * inverse % p
			for j := range row {
				row[j] = (row[j] + (p-factor)*rows[rank][j]) % p
			}
		}
		rank++
	}
	return rank
}

// countDifferent gives the number of the different irreducible factors of a monic f, after Berlekamp:
// that of independent polynomials of smaller degrees that f divides when they are subtracted from
// their p-th powers.
func countDifferent(p int64, f []int64) int {
	rows := frobeniusRows(p, f)
	for i, row := range rows {
		row[i] = (row[i] + p - 1) % p
	}
	return len(rows) - exactRank(p, rows)
}

// isIrreducibleExact tells whether a monic f of the degree n has one irreducible factor only, and, as
// no multiple factor does, divides x to the power of p^n minus x.
func isIrreducibleExact(p int64, f []int64) bool {
	if len(f) == 2 {
		return true
	}
	rows := frobeniusRows(p, f)
	x := append([]int64{0, 1}, make([]int64, len(f)-3)...)
	power := x
	for range len(f) - 1 {
		next := make([]int64, len(f)-1)
		for i, n := range power {
			for j := range next {
				next[j] = (next[j] + n*rows[i][j]) % p
			}
		}
		power = next
	}
	return slices.Equal(power, x) && countDifferent(p, f) == 1
}

// TestPromise10FactorsOfManyPolynomials multiplies the factors, and asks of each of them whether it is
// irreducible.
func TestPromise10FactorsOfManyPolynomials(t *testing.T) {
	counts := map[int]int{}
	for p, list := range manyModular() {
		for _, f := range list {
			if len(f) < 2 {
				continue
			}
			factors, code := impl.FactorModular(p, f)
			if code != impl.ErrNone || len(factors) != countDifferent(p, monicBy(p, f)) {
				t.Fatal("FactorModular", p, f, factors, code)
			}
			product := []int64{f[len(f)-1]}
			before := int64(0)
			for _, factor := range factors {
				if factor.Times < 1 || digitsValue(p, factor.Polynomial) <= before || factor.Polynomial[len(factor.Polynomial)-1] != 1 || !impl.IsModular(p, factor.Polynomial) || !isIrreducibleExact(p, factor.Polynomial) {
					t.Fatal("a factor", p, f, factors)
				}
				before = digitsValue(p, factor.Polynomial)
				product = exactModular(p, product, exactFactors(p, []impl.Factor{factor}))
			}
			if !slices.Equal(product, f) {
				t.Fatal("the last coefficient times the product of the factors", p, f, factors, product)
			}
			checkFactored(t, p, f, factors)
			counts[len(factors)]++
		}
	}
	for count := 1; count <= 4; count++ {
		if counts[count] < 50 {
			t.Error("polynomials with as many factors", count, counts)
		}
	}
}

// irreduciblesBy gives for each degree from 1 to MaxDegree as many irreducible monic polynomials by p
// as wanted, or all if there are fewer.
func irreduciblesBy(p int64, count int) [][]int64 {
	list := [][]int64{}
	step := coefficientSteps(uint64(p) + 9)
	for length := 2; length <= impl.MaxDegree+1; length++ {
		found := 0
		for tries := 0; found < count && tries < 400; tries++ {
			f := append(make([]int64, length-1), 1)
			for i := range length - 1 {
				f[i] = (step(p) + p) % p
			}
			isKnown := slices.ContainsFunc(list, func(other []int64) bool { return slices.Equal(f, other) })
			if !isKnown && isIrreducibleExact(p, f) {
				list = append(list, f)
				found++
			}
		}
	}
	return list
}

// TestPromise10PowersOfTwoFactors takes all powers of two irreducible polynomials, also of the same
// degree, whose product fits: p-th powers, p-th powers times others, and multiples of p as exponents
// are among them.
func TestPromise10PowersOfTwoFactors(t *testing.T) {
	counts := map[string]int{}
	for _, p := range basePrimes() {
		list := irreduciblesBy(p, 2)
		for i, q := range list {
			for _, other := range list[:i+1] {
				for first := 1; first*(len(q)-1) <= impl.MaxDegree; first++ {
					for second := 0; first*(len(q)-1)+second*(len(other)-1) <= impl.MaxDegree; second++ {
						want := []impl.Factor{times(int64(first), q...)}
						if second > 0 {
							want = joined(p, want, times(int64(second), other...))
						}
						f := timesNumber(p, exactFactors(p, want), first+3*second+i)
						checkFactored(t, p, f, want)
						switch {
						case len(want) == 1 && want[0].Times == 1:
							counts[fmt.Sprint("irreducible ", len(f)-1)]++
						case len(want) == 1 && want[0].Times%p == 0:
							counts[fmt.Sprint("power ", p)]++
						case len(want) == 2 && (want[0].Times%p == 0) != (want[1].Times%p == 0):
							counts[fmt.Sprint("power with another ", p)]++
						case len(want) == 2 && want[0].Times == 1 && want[1].Times == 1 && len(q) == len(other):
							counts[fmt.Sprint("same degree ", len(q)-1)]++
						}
					}
				}
			}
		}
	}
	for degree := 1; degree <= impl.MaxDegree; degree++ {
		if counts[fmt.Sprint("irreducible ", degree)] < 25 || degree <= 4 && counts[fmt.Sprint("same degree ", degree)] < 20 {
			t.Error("polynomials with one factor or two", degree, counts)
		}
	}
	for _, p := range []int64{2, 3, 5, 7} {
		if counts[fmt.Sprint("power ", p)] < 1 || counts[fmt.Sprint("power with another ", p)] < 2 {
			t.Error("p-th powers", p, counts)
		}
	}
}

// TestPromise10ProductsOfSeveralFactors fills polynomials with irreducible ones as long as they fit.
func TestPromise10ProductsOfSeveralFactors(t *testing.T) {
	counts := map[int]int{}
	for _, p := range basePrimes() {
		list := irreduciblesBy(p, 4)
		choose := choices(p * 31)
		for i := range 60 {
			// In turns only short ones are taken, which leads to more factors.
			most := []int{2, 3, 4, impl.MaxDegree + 1}[i%4]
			want, degree := []impl.Factor{}, 0
			for range 40 {
				q := list[choose(len(list))]
				if len(q) <= most && degree+len(q)-1 <= impl.MaxDegree {
					want = joined(p, want, times(1, q...))
					degree += len(q) - 1
				}
			}
			if degree > 0 {
				counts[len(want)]++
				checkFactored(t, p, timesNumber(p, exactFactors(p, want), i), want)
			}
		}
	}
	for count := 1; count <= 5; count++ {
		if counts[count] < 20 {
			t.Error("products of as many different factors", count, counts)
		}
	}
}

// TestPromise10ManyRoots takes up to MaxDegree roots, which are different but for the prime 5, from each
// number on.
func TestPromise10ManyRoots(t *testing.T) {
	for _, p := range basePrimes() {
		for first := range p {
			want := []impl.Factor{}
			for i := range min(p, impl.MaxDegree) {
				want = joined(p, want, times(1, minus(p, (first+i*5)%p)...))
				checkFactored(t, p, timesNumber(p, exactFactors(p, want), int(first+i)), want)
			}
		}
	}
}

func TestFactorModular(t *testing.T) {
	for _, c := range []struct {
		p    int64
		f    []int64
		want []impl.Factor
	}{
		{5, []int64{1, 0, 1}, []impl.Factor{times(1, 2, 1), times(1, 3, 1)}},
		{3, []int64{1, 0, 1}, []impl.Factor{times(1, 1, 0, 1)}},
		// The degree 1, also with other last coefficients.
		{2, []int64{0, 1}, []impl.Factor{times(1, 0, 1)}}, {2, []int64{1, 1}, []impl.Factor{times(1, 1, 1)}}, {3, []int64{1, 2}, []impl.Factor{times(1, 2, 1)}}, {97, []int64{96, 96}, []impl.Factor{times(1, 1, 1)}}, {97, []int64{0, 96}, []impl.Factor{times(1, 0, 1)}}, {97, []int64{5, 1}, []impl.Factor{times(1, 5, 1)}},
		// Other degrees with other last coefficients, which are no factors.
		{5, []int64{3, 0, 3}, []impl.Factor{times(1, 2, 1), times(1, 3, 1)}}, {3, []int64{2, 0, 2}, []impl.Factor{times(1, 1, 0, 1)}}, {97, []int64{10, 0, 95}, []impl.Factor{times(1, 92, 0, 1)}}, {97, []int64{0, 0, 0, 0, 0, 0, 0, 0, 96}, []impl.Factor{times(8, 0, 1)}}, {5, []int64{0, 0, 3, 1, 3}, []impl.Factor{times(2, 0, 1), times(2, 1, 1)}},
		// Powers of the prime as exponents, and multiples of it.
		{2, []int64{1, 0, 0, 0, 1}, []impl.Factor{times(4, 1, 1)}}, {2, []int64{1, 0, 1}, []impl.Factor{times(2, 1, 1)}}, {2, []int64{1, 0, 0, 0, 0, 0, 0, 0, 1}, []impl.Factor{times(8, 1, 1)}}, {2, []int64{0, 0, 0, 0, 0, 0, 1}, []impl.Factor{times(6, 0, 1)}}, {2, []int64{1, 0, 1, 0, 1}, []impl.Factor{times(2, 1, 1, 1)}}, {2, []int64{1, 0, 0, 0, 1, 0, 0, 0, 1}, []impl.Factor{times(4, 1, 1, 1)}}, {2, []int64{1, 0, 1, 0, 0, 0, 1}, []impl.Factor{times(2, 1, 1, 0, 1)}}, {2, []int64{1, 0, 1, 0, 0, 0, 0, 0, 1}, []impl.Factor{times(2, 1, 1, 0, 0, 1)}},
		{3, []int64{1, 0, 0, 1}, []impl.Factor{times(3, 1, 1)}}, {3, []int64{1, 0, 0, 2, 0, 0, 1}, []impl.Factor{times(6, 1, 1)}}, {3, []int64{2, 0, 0, 0, 0, 0, 2}, []impl.Factor{times(3, 1, 0, 1)}}, {5, []int64{3, 0, 0, 0, 0, 1}, []impl.Factor{times(5, 3, 1)}}, {5, []int64{3, 0, 0, 0, 0, 2}, []impl.Factor{times(5, 4, 1)}}, {7, []int64{6, 0, 0, 0, 0, 0, 0, 1}, []impl.Factor{times(7, 6, 1)}},
		// p-th powers times others, and exponents beyond the prime.
		{2, []int64{0, 1, 0, 1}, []impl.Factor{times(1, 0, 1), times(2, 1, 1)}}, {2, []int64{1, 1, 1, 1}, []impl.Factor{times(3, 1, 1)}}, {2, repeated(1, 8), []impl.Factor{times(7, 1, 1)}}, {2, []int64{0, 0, 1, 1, 1}, []impl.Factor{times(2, 0, 1), times(1, 1, 1, 1)}}, {2, []int64{0, 1, 0, 1, 0, 1}, []impl.Factor{times(1, 0, 1), times(2, 1, 1, 1)}},
		{3, []int64{0, 1, 0, 0, 1}, []impl.Factor{times(1, 0, 1), times(3, 1, 1)}}, {3, []int64{1, 1, 0, 1, 1}, []impl.Factor{times(4, 1, 1)}}, {3, []int64{1, 0, 1, 1, 0, 1}, []impl.Factor{times(3, 1, 1), times(1, 1, 0, 1)}}, {3, []int64{0, 1, 0, 0, 0, 0, 0, 1}, []impl.Factor{times(1, 0, 1), times(3, 1, 0, 1)}}, {5, []int64{0, 0, 3, 0, 0, 0, 0, 1}, []impl.Factor{times(2, 0, 1), times(5, 3, 1)}}, {7, []int64{0, 6, 0, 0, 0, 0, 0, 0, 1}, []impl.Factor{times(1, 0, 1), times(7, 6, 1)}}, {7, []int64{1, 1, 0, 0, 0, 0, 0, 1, 1}, []impl.Factor{times(8, 1, 1)}},
		// Irreducible ones of each degree.
		{2, []int64{1, 1, 1}, []impl.Factor{times(1, 1, 1, 1)}}, {2, []int64{1, 1, 0, 1}, []impl.Factor{times(1, 1, 1, 0, 1)}}, {2, repeated(1, 5), []impl.Factor{times(1, repeated(1, 5)...)}}, {2, []int64{1, 0, 1, 0, 0, 1}, []impl.Factor{times(1, 1, 0, 1, 0, 0, 1)}}, {2, []int64{1, 0, 0, 1, 0, 0, 1}, []impl.Factor{times(1, 1, 0, 0, 1, 0, 0, 1)}}, {2, []int64{1, 1, 0, 0, 0, 0, 0, 1}, []impl.Factor{times(1, 1, 1, 0, 0, 0, 0, 0, 1)}}, {2, []int64{1, 1, 0, 1, 1, 0, 0, 0, 1}, []impl.Factor{times(1, 1, 1, 0, 1, 1, 0, 0, 0, 1)}},
		{3, []int64{1, 2, 0, 1}, []impl.Factor{times(1, 1, 2, 0, 1)}}, {7, []int64{4, 0, 0, 2}, []impl.Factor{times(1, 2, 0, 0, 1)}}, {97, []int64{92, 0, 0, 0, 0, 0, 0, 0, 1}, []impl.Factor{times(1, 92, 0, 0, 0, 0, 0, 0, 0, 1)}}, {97, []int64{5, 0, 0, 0, 0, 0, 0, 0, 96}, []impl.Factor{times(1, 92, 0, 0, 0, 0, 0, 0, 0, 1)}},
		// Several of the same degree, in order.
		{3, []int64{1, 0, 0, 0, 1}, []impl.Factor{times(1, 2, 1, 1), times(1, 2, 2, 1)}}, {2, repeated(1, 7), []impl.Factor{times(1, 1, 1, 0, 1), times(1, 1, 0, 1, 1)}}, {2, []int64{1, 0, 0, 0, 0, 0, 0, 1}, []impl.Factor{times(1, 1, 1), times(1, 1, 1, 0, 1), times(1, 1, 0, 1, 1)}}, {2, []int64{0, 1, 0, 0, 0, 0, 0, 0, 1}, []impl.Factor{times(1, 0, 1), times(1, 1, 1), times(1, 1, 1, 0, 1), times(1, 1, 0, 1, 1)}}, {3, repeated(2, 9), []impl.Factor{times(8, 2, 1)}},
		{5, []int64{0, 4, 0, 0, 0, 1}, []impl.Factor{times(1, 0, 1), times(1, 1, 1), times(1, 2, 1), times(1, 3, 1), times(1, 4, 1)}}, {97, []int64{96, 0, 0, 0, 0, 0, 0, 0, 1}, []impl.Factor{times(1, 1, 1), times(1, 22, 1), times(1, 33, 1), times(1, 47, 1), times(1, 50, 1), times(1, 64, 1), times(1, 75, 1), times(1, 96, 1)}}, {97, []int64{1, 95, 1}, []impl.Factor{times(2, 96, 1)}},
	} {
		checkFactored(t, c.p, c.f, c.want)
	}
}

// TestLastCoefficientsAreNoFactors gives all multiples by numbers of some polynomials.
func TestLastCoefficientsAreNoFactors(t *testing.T) {
	for _, p := range basePrimes() {
		for _, f := range [][]int64{{0, 1}, {p - 1, 1}, {1, 0, 1}, {1, 2 % p, 1}, repeated(1, 9)} {
			want, code := impl.FactorModular(p, f)
			if code != impl.ErrNone || !slices.Equal(exactFactors(p, want), f) {
				t.Fatal("FactorModular", p, f, want, code)
			}
			for last := int64(1); last < p; last++ {
				checkFactored(t, p, exactModular(p, f, []int64{last}), want)
			}
		}
	}
}

// orderOf compares by numbers of coefficients, then by numbers with these digits.
func orderOf(p int64, f, g []int64) int64 {
	if len(f) != len(g) {
		return int64(cmp.Compare(len(f), len(g)))
	}
	return int64(cmp.Compare(digitsValue(p, f), digitsValue(p, g)))
}

func TestOrderOfPolynomials(t *testing.T) {
	counts := map[int64]int{}
	for p, list := range manyModular() {
		list = append(list, []int64{}, []int64{1}, []int64{p - 1})
		for _, f := range list {
			for _, g := range list {
				want := orderOf(p, f, g)
				counts[want]++
				if got, code := impl.ComparePolynomials(p, f, g); got != want || code != impl.ErrNone {
					t.Fatal("ComparePolynomials", p, f, g, got, code, want)
				}
			}
		}
	}
	if counts[-1] < 10000 || counts[0] < 1000 || counts[1] != counts[-1] {
		t.Error("results of comparing", counts)
	}
}

func TestComparePolynomials(t *testing.T) {
	for _, c := range []struct {
		p    int64
		f, g []int64
		want int64
	}{
		{5, []int64{2, 1}, []int64{3, 1}, -1},
		// Equal ones, among them 0 and constants.
		{2, nil, nil, 0}, {97, nil, []int64{}, 0}, {2, []int64{1}, []int64{1}, 0}, {97, []int64{96}, []int64{96}, 0}, {97, repeated(96, 9), repeated(96, 9), 0}, {5, []int64{0, 0, 3}, []int64{0, 0, 3}, 0},
		// Different lengths: no coefficient matters then.
		{2, nil, []int64{1}, -1}, {97, []int64{96}, []int64{0, 1}, -1}, {97, repeated(96, 8), append(make([]int64, 8), 1), -1}, {5, []int64{4, 4, 4}, []int64{0, 0, 0, 1}, -1}, {5, []int64{}, repeated(1, 9), -1}, {97, []int64{3}, []int64{5}, -1},
		// One place that differs: the first, one in between, the last.
		{97, append([]int64{0}, repeated(96, 8)...), append([]int64{1}, repeated(96, 8)...), -1}, {97, []int64{96, 96, 3, 96, 1}, []int64{96, 96, 4, 96, 1}, -1}, {97, append(repeated(5, 8), 95), append(repeated(5, 8), 96), -1}, {3, []int64{0, 0, 1}, []int64{0, 0, 2}, -1},
		// Several places: the last of them decides.
		{5, []int64{4, 4, 1, 1}, []int64{0, 0, 2, 1}, -1}, {5, []int64{4, 0, 1}, []int64{0, 1, 1}, -1}, {97, append(repeated(96, 8), 1), append(make([]int64, 8), 2), -1}, {2, []int64{1, 1, 0, 1}, []int64{1, 0, 1, 1}, -1},
	} {
		got, code := impl.ComparePolynomials(c.p, c.f, c.g)
		back, two := impl.ComparePolynomials(c.p, c.g, c.f)
		if got != c.want || back != -c.want || code != impl.ErrNone || two != impl.ErrNone {
			t.Error("ComparePolynomials", c.p, c.f, c.g, got, code, back, two)
		}
	}
}

func TestErrorsOfComparePolynomials(t *testing.T) {
	check := func(p int64, f, g []int64) {
		t.Helper()
		if got, code := impl.ComparePolynomials(p, f, g); got != 0 || code != impl.ErrInvalid {
			t.Fatal("ComparePolynomials", p, f, g, got, code)
		}
	}
	good := [][]int64{nil, {}, {1}, {0, 1}, {1, 1, 1}, repeated(1, 9)}
	for _, p := range notPrimes() {
		for _, f := range slices.Concat(good, notModular(5)) {
			for _, g := range good {
				check(p, f, g)
				check(p, g, f)
			}
		}
	}
	for _, p := range basePrimes() {
		for _, f := range notModular(p) {
			check(p, f, f)
			for _, g := range good {
				check(p, f, g)
				check(p, g, f)
			}
		}
	}
}

// checkFactorErrors gives all functions of one polynomial an argument that has no factors.
func checkFactorErrors(t *testing.T, p int64, f []int64, want int64) {
	t.Helper()
	irreducible, code := impl.IsIrreducible(p, f)
	list, two := impl.FactorModular(p, f)
	degrees, three := impl.DegreesOf(p, f)
	part, four := impl.SquareFreePart(p, f)
	smallest, five := impl.SmallestFactor(p, f)
	roots, six := impl.CountRoots(p, f)
	if irreducible || len(list) != 0 || len(degrees) != 0 || len(part) != 0 || len(smallest) != 0 || roots != 0 {
		t.Fatal("results beside an error", p, f, irreducible, list, degrees, part, smallest, roots)
	}
	for _, got := range []int64{code, two, three, four, five, six} {
		if got != want {
			t.Fatal("errors", p, f, code, two, three, four, five, six, want)
		}
	}
}

// TestErrorsOfFactors gives also arguments that miss several conditions: no primes, or lists that are
// no polynomials, with degrees less than 1.
func TestErrorsOfFactors(t *testing.T) {
	for _, p := range notPrimes() {
		for _, f := range slices.Concat([][]int64{nil, {}, {1}, {0, 1}, {1, 1, 1}, repeated(1, 9)}, notModular(5)) {
			checkFactorErrors(t, p, f, impl.ErrInvalid)
		}
	}
	for _, p := range basePrimes() {
		for _, f := range notModular(p) {
			checkFactorErrors(t, p, f, impl.ErrInvalid)
		}
		checkFactorErrors(t, p, nil, impl.ErrRange)
		checkFactorErrors(t, p, []int64{}, impl.ErrRange)
		for constant := int64(1); constant < p; constant++ {
			checkFactorErrors(t, p, []int64{constant}, impl.ErrRange)
		}
	}
}

// TestProductsOfManyFactors takes factors that may be constants, not monic, or not irreducible.
func TestProductsOfManyFactors(t *testing.T) {
	codes := map[int64]int{}
	for _, p := range basePrimes() {
		all := someModular(p, 4)[1:]
		choose := choices(p * 77)
		for i := range 400 {
			list, degree := []impl.Factor{}, 0
			for range i % (impl.MaxDegree + 1) {
				// The short ones come first in the list; in turns only they are chosen.
				f := all[choose(len(all)/(1+i%3))]
				count := max(choose(2*impl.MaxDegree)-impl.MaxDegree, 0) + 1
				if i%2 == 0 && degree+(len(f)-1)*count > impl.MaxDegree {
					f = f[len(f)-1:]
				}
				list = append(list, times(int64(count), f...))
				degree += (len(f) - 1) * count
			}
			want, wantCode := []int64{}, int64(impl.ErrLimit)
			if degree <= impl.MaxDegree {
				want, wantCode = exactFactors(p, list), impl.ErrNone
			}
			codes[wantCode]++
			if got, code := impl.ProductOf(p, list); !isModularResult(p, got, code, want, wantCode) {
				t.Fatal("ProductOf", p, list, got, code, want, wantCode)
			}
		}
	}
	if codes[impl.ErrNone] < 3000 || codes[impl.ErrLimit] < 3000 {
		t.Error("codes of products", codes)
	}
}

func TestProductOf(t *testing.T) {
	constants := slices.Repeat([]impl.Factor{times(1, 96)}, 8)
	for _, c := range []struct {
		p    int64
		list []impl.Factor
		want []int64
		code int64
	}{
		{5, []impl.Factor{times(1, 2, 1), times(1, 3, 1)}, []int64{1, 0, 1}, impl.ErrNone},
		// No factors, and one.
		{2, nil, []int64{1}, impl.ErrNone}, {97, []impl.Factor{}, []int64{1}, impl.ErrNone}, {2, []impl.Factor{times(1, 1, 1)}, []int64{1, 1}, impl.ErrNone}, {97, []impl.Factor{times(1, repeated(96, 9)...)}, repeated(96, 9), impl.ErrNone},
		// Constants, also with the greatest Times, and factors that are not monic or not irreducible.
		{2, []impl.Factor{times(8, 1)}, []int64{1}, impl.ErrNone}, {97, []impl.Factor{times(7, 96)}, []int64{96}, impl.ErrNone}, {97, []impl.Factor{times(8, 96)}, []int64{1}, impl.ErrNone}, {5, []impl.Factor{times(3, 2), times(1, 1, 1)}, []int64{3, 3}, impl.ErrNone}, {5, []impl.Factor{times(2, 1, 2)}, []int64{1, 4, 4}, impl.ErrNone}, {5, []impl.Factor{times(2, 4, 0, 1)}, []int64{1, 0, 3, 0, 1}, impl.ErrNone},
		// The same factor several times, and factors in any order.
		{2, []impl.Factor{times(1, 1, 1), times(2, 1, 1), times(1, 1, 1)}, []int64{1, 0, 0, 0, 1}, impl.ErrNone}, {5, []impl.Factor{times(1, 3, 0, 1), times(1, 3, 1), times(1, 2, 1)}, []int64{3, 0, 4, 0, 1}, impl.ErrNone},
		// MaxDegree as Times and as the number of factors, and one more factor.
		{2, []impl.Factor{times(8, 1, 1)}, []int64{1, 0, 0, 0, 0, 0, 0, 0, 1}, impl.ErrNone}, {97, []impl.Factor{times(8, 0, 96)}, append(make([]int64, 8), 1), impl.ErrNone}, {97, constants, []int64{1}, impl.ErrNone}, {97, append(constants[:7:7], times(1, 5, 5)), []int64{92, 92}, impl.ErrNone}, {2, slices.Repeat([]impl.Factor{times(1, 1, 1)}, 8), []int64{1, 0, 0, 0, 0, 0, 0, 0, 1}, impl.ErrNone}, {2, slices.Repeat([]impl.Factor{times(1, 1)}, 9), nil, impl.ErrLimit}, {97, append(constants[:8:8], times(1, 96)), nil, impl.ErrLimit}, {2, slices.Repeat([]impl.Factor{times(1, 1)}, 100), nil, impl.ErrLimit},
		// Nine and ten coefficients.
		{3, []impl.Factor{times(1, append(make([]int64, 8), 2)...), times(8, 2)}, append(make([]int64, 8), 2), impl.ErrNone}, {3, []impl.Factor{times(1, append(make([]int64, 8), 2)...), times(1, 0, 1)}, nil, impl.ErrLimit}, {3, []impl.Factor{times(4, 0, 0, 1)}, append(make([]int64, 8), 1), impl.ErrNone}, {3, []impl.Factor{times(3, 0, 0, 0, 1)}, nil, impl.ErrLimit}, {3, []impl.Factor{times(8, 0, 1), times(1, 0, 1)}, nil, impl.ErrLimit}, {3, []impl.Factor{times(5, 0, 1), times(1, 0, 0, 0, 1)}, append(make([]int64, 8), 1), impl.ErrNone}, {3, []impl.Factor{times(1, repeated(1, 5)...), times(1, repeated(1, 6)...)}, nil, impl.ErrLimit}, {97, slices.Repeat([]impl.Factor{times(8, repeated(96, 9)...)}, 8), nil, impl.ErrLimit},
		// 0 among the factors, also where the product of the others would be too long.
		{2, []impl.Factor{times(1)}, nil, impl.ErrNone}, {97, []impl.Factor{times(8, []int64{}...)}, nil, impl.ErrNone}, {5, []impl.Factor{times(1), times(1, 2, 1)}, nil, impl.ErrNone}, {5, []impl.Factor{times(1, 2, 1), times(3)}, nil, impl.ErrNone}, {5, []impl.Factor{times(8, repeated(1, 9)...), times(1)}, nil, impl.ErrNone}, {5, []impl.Factor{times(1), times(8, repeated(1, 9)...)}, nil, impl.ErrNone}, {5, []impl.Factor{times(5, 1, 1), times(2), times(5, 1, 1)}, nil, impl.ErrNone}, {97, append(slices.Repeat([]impl.Factor{times(8, repeated(96, 9)...)}, 7), times(1)), nil, impl.ErrNone}, {97, slices.Repeat([]impl.Factor{times(8)}, 8), nil, impl.ErrNone},
		// 0 among too many factors.
		{2, slices.Repeat([]impl.Factor{times(1)}, 9), nil, impl.ErrLimit}, {97, append(constants[:8:8], times(1)), nil, impl.ErrLimit}, {97, slices.Concat([]impl.Factor{times(1)}, constants), nil, impl.ErrLimit},
	} {
		if got, code := impl.ProductOf(c.p, c.list); !isModularResult(c.p, got, code, c.want, c.code) {
			t.Error("ProductOf", c.p, c.list, got, code, c.want, c.code)
		}
	}
}

// TestErrorsOfProductOf gives also lists that are too long, or have 0 or too long products besides.
func TestErrorsOfProductOf(t *testing.T) {
	check := func(p int64, list ...impl.Factor) {
		t.Helper()
		if got, code := impl.ProductOf(p, list); len(got) != 0 || code != impl.ErrInvalid {
			t.Fatal("ProductOf", p, list, got, code)
		}
	}
	others := [][]impl.Factor{nil, {times(1)}, {times(1, 1)}, {times(8, repeated(1, 9)...)}, slices.Repeat([]impl.Factor{times(1, 1)}, 7), slices.Repeat([]impl.Factor{times(1, 1)}, 8), slices.Repeat([]impl.Factor{times(8)}, 20)}
	for _, p := range notPrimes() {
		for _, list := range others {
			check(p, list...)
		}
	}
	for _, p := range basePrimes() {
		for _, list := range others {
			for _, f := range notModular(p) {
				check(p, append(slices.Clone(list), times(1, f...))...)
				check(p, slices.Insert(slices.Clone(list), 0, times(1, f...))...)
			}
			for _, count := range append(notValues(), 0, -1, -8, impl.MaxDegree+1, impl.MaxDegree+2, 256, 1<<32, 1<<32+1, math.MinInt64+1) {
				for _, f := range [][]int64{nil, {1}, {1, 1}, repeated(1, 9)} {
					check(p, append(slices.Clone(list), times(count, f...))...)
					check(p, slices.Insert(slices.Clone(list), 0, times(count, f...))...)
				}
			}
		}
	}
}

// TestFactorsShareNoMemory overwrites results, and compares the others and the arguments.
func TestFactorsShareNoMemory(t *testing.T) {
	const p = 97
	for _, f := range [][]int64{{1, 1}, {5, 1}, {5, 7}, {1, 2, 1}, {92, 0, 1}, {92, 0, 96}, {96, 0, 0, 0, 0, 0, 0, 0, 1}, repeated(1, 9), repeated(96, 9), append(make([]int64, 8), 1)} {
		argument, whole := spare(f)
		before := slices.Clone(whole)
		list, _ := impl.FactorModular(p, argument)
		again, _ := impl.FactorModular(p, argument)
		for i := range list {
			overwrite(list[i].Polynomial)
			list[i].Times = 99
			if !sameFactors(list[i+1:], again[i+1:]) {
				t.Fatal("factors share memory", f, list, again)
			}
		}
		degrees, _ := impl.DegreesOf(p, argument)
		part, _ := impl.SquareFreePart(p, argument)
		smallest, _ := impl.SmallestFactor(p, argument)
		for _, result := range [][]int64{degrees, part, smallest} {
			overwrite(result)
		}
		impl.IsIrreducible(p, argument)
		impl.CountRoots(p, argument)
		impl.ComparePolynomials(p, argument, argument)
		if third, _ := impl.FactorModular(p, argument); !slices.Equal(whole, before) || !sameFactors(third, again) {
			t.Fatal("an argument was changed", f, whole, before)
		}
	}
}

func TestProductsShareNoMemoryWithFactors(t *testing.T) {
	first, wholeFirst := spare([]int64{5, 7, 1})
	second, wholeSecond := spare([]int64{3})
	before, beforeSecond := slices.Clone(wholeFirst), slices.Clone(wholeSecond)
	factors := []impl.Factor{times(1, first...), times(8, second...), times(2, first...), times(1)}
	whole := slices.Clone(factors)
	for count := range len(factors) + 1 {
		product, _ := impl.ProductOf(97, factors[:count])
		overwrite(product)
		if !slices.Equal(wholeFirst, before) || !slices.Equal(wholeSecond, beforeSecond) || !sameFactors(factors, whole) {
			t.Fatal("an argument was changed", count, wholeFirst, wholeSecond, factors)
		}
	}
	for _, f := range [][]int64{first, second} {
		product, _ := impl.ProductOf(97, []impl.Factor{{Polynomial: f, Times: 1}})
		overwrite(product)
		if !slices.Equal(wholeFirst, before) || !slices.Equal(wholeSecond, beforeSecond) {
			t.Fatal("an argument was changed", wholeFirst, wholeSecond)
		}
	}
}

// TestFactorsAtTheSameTime calls from several goroutines, and waits until none is left over.
func TestFactorsAtTheSameTime(t *testing.T) {
	before := runtime.NumGoroutine()
	list := someModular(13, 8)
	var work sync.WaitGroup
	for range 8 {
		work.Go(func() {
			for _, f := range list {
				if len(f) < 2 {
					continue
				}
				factors, code := impl.FactorModular(13, f)
				smallest, two := impl.SmallestFactor(13, f)
				if code != impl.ErrNone || two != impl.ErrNone || !slices.Equal(smallest, factors[0].Polynomial) || !slices.Equal(exactFactors(13, factors), monicBy(13, f)) {
					t.Error("factors at the same time", f, factors, code, smallest, two)
				}
			}
		})
	}
	work.Wait()
	for range 1000000 {
		if runtime.NumGoroutine() <= before {
			return
		}
		runtime.Gosched()
	}
	t.Error("goroutines are left over", runtime.NumGoroutine(), before)
}
