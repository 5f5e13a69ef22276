package tests

import (
	"math"
	"math/big"
	"slices"
	"testing"

	"loop.example/g01000/impl"
)

// powersOf gives the powers of p from p itself up to MaxModulus.
func powersOf(p int64) []int64 {
	powers := []int64{}
	for m := p; m <= impl.MaxModulus; m *= p {
		powers = append(powers, m)
	}
	return powers
}

// validRings gives all valid rings with their moduli.
func validRings() map[impl.Ring]int64 {
	rings := map[impl.Ring]int64{}
	for p, prime := range primeTable(impl.MaxPrime) {
		if !prime {
			continue
		}
		for i, m := range powersOf(int64(p)) {
			rings[impl.Ring{Prime: int64(p), Precision: int64(i + 1)}] = m
		}
	}
	return rings
}

// invalidRings gives rings that miss each condition alone, and some that miss several.
func invalidRings() []impl.Ring {
	rings := []impl.Ring{{}}
	for p, prime := range primeTable(impl.MaxPrime) {
		if !prime {
			rings = append(rings, impl.Ring{Prime: int64(p), Precision: 1}, impl.Ring{Prime: -int64(p), Precision: 1})
			continue
		}
		most := int64(len(powersOf(int64(p))))
		for _, k := range append(notValues(), 0, -1, -most, most+1, most+2, 31, 62, 63, 64, 65, 128, 1<<32+1) {
			rings = append(rings, impl.Ring{Prime: int64(p), Precision: k})
		}
	}
	for _, p := range append(notValues(), -2, -97, 98, 101, 103, 999983, 1<<32+2, impl.MaxModulus) {
		rings = append(rings, impl.Ring{Prime: p, Precision: 1}, impl.Ring{Prime: p, Precision: 0}, impl.Ring{Prime: p, Precision: math.MinInt64})
	}
	return rings
}

// residuesOf gives all residues by a small modulus, and for a great one its ends and some that are
// spread between them.
func residuesOf(r impl.Ring, m int64) []int64 {
	list := []int64{}
	if m <= 400 {
		for a := range m {
			list = append(list, a)
		}
		return list
	}
	for _, a := range []int64{0, 1, 2, 3, r.Prime - 1, r.Prime, r.Prime + 1, 2*r.Prime - 1, m / r.Prime, m/r.Prime + 1, m / 2, m/2 + 1, m - r.Prime, m - r.Prime - 1, m - 2, m - 1} {
		list = append(list, a%m)
	}
	for i := int64(1); i <= 40; i++ {
		list = append(list, (i*i*i*618033989+i*97)%m)
	}
	return list
}

// exactPower gives a to the power of e by m.
func exactPower(a, e, m int64) int64 {
	return new(big.Int).Exp(big.NewInt(a), big.NewInt(e), big.NewInt(m)).Int64()
}

func TestRingsOfResidues(t *testing.T) {
	if impl.MaxModulus != 1000000000 {
		t.Error("MaxModulus", impl.MaxModulus)
	}
	for r, m := range validRings() {
		if got, code := impl.ModulusOf(r); !impl.IsRing(r) || got != m || code != impl.ErrNone {
			t.Error("ModulusOf", r, impl.IsRing(r), got, code)
		}
	}
	for _, c := range [][3]int64{{2, 29, 536870912}, {3, 18, 387420489}, {31, 6, 887503681}, {97, 4, 88529281}, {2, 1, 2}, {97, 1, 97}, {5, 2, 25}} {
		r := impl.Ring{Prime: c[0], Precision: c[1]}
		if got, code := impl.ModulusOf(r); got != c[2] || code != impl.ErrNone {
			t.Error("ModulusOf", r, got, code)
		}
	}
	for _, r := range invalidRings() {
		if got, code := impl.ModulusOf(r); impl.IsRing(r) || got != 0 || code != impl.ErrInvalid {
			t.Error("ModulusOf", r, impl.IsRing(r), got, code)
		}
	}
}

// TestInvalidRingsComeFirst gives invalid rings together with numbers that would be errors, too.
func TestInvalidRingsComeFirst(t *testing.T) {
	for _, r := range invalidRings() {
		for _, a := range append(notValues(), 0, 1, -1, impl.MaxModulus, impl.MaxValue) {
			results := map[string][2]int64{}
			set := func(name string, result, code int64) { results[name] = [2]int64{result, code} }
			result, code := impl.ReduceTo(r, a)
			set("ReduceTo", result, code)
			result, code = impl.InverseOf(r, a)
			set("InverseOf", result, code)
			result, code = impl.PowerOf(r, a, 2)
			set("PowerOf", result, code)
			result, code = impl.PowerOf(r, 1, a)
			set("PowerOf with an exponent", result, code)
			result, code = impl.OrderOf(r, a)
			set("OrderOf", result, code)
			result, code = impl.TeichmuellerOf(r, a)
			set("TeichmuellerOf", result, code)
			result, code = impl.CountUnits(r)
			set("CountUnits", result, code)
			for name, pair := range results {
				if pair != [2]int64{0, impl.ErrInvalid} {
					t.Fatal(name, r, a, pair)
				}
			}
		}
	}
}

func TestNoResidues(t *testing.T) {
	for r, m := range validRings() {
		// The prime divides some of these numbers: that they are no residues comes before ErrState.
		for _, a := range append(notValues(), -1, -r.Prime, -m, m, m+1, m+r.Prime, 2*m, impl.MaxValue, -impl.MaxValue) {
			inverse, one := impl.InverseOf(r, a)
			power, two := impl.PowerOf(r, a, 1)
			order, three := impl.OrderOf(r, a)
			lift, four := impl.TeichmuellerOf(r, a)
			if !slices.Equal([]int64{inverse, power, order, lift}, make([]int64, 4)) {
				t.Error("results beside an error", r, a, inverse, power, order, lift)
			}
			if !slices.Equal([]int64{one, two, three, four}, []int64{impl.ErrRange, impl.ErrRange, impl.ErrRange, impl.ErrRange}) {
				t.Error("codes", r, a, one, two, three, four)
			}
		}
	}
}

func TestReduceTo(t *testing.T) {
	for r, m := range validRings() {
		for _, n := range []int64{0, 1, -1, m - 1, m, m + 1, -m, 1 - m, -m - 1, 7*m + 1, -7*m - 1, 123456789012, -123456789012, impl.MaxValue, -impl.MaxValue} {
			want := new(big.Int).Mod(big.NewInt(n), big.NewInt(m)).Int64()
			if got, code := impl.ReduceTo(r, n); got != want || code != impl.ErrNone {
				t.Error("ReduceTo", r, n, got, code)
			}
		}
		for _, n := range notValues() {
			if got, code := impl.ReduceTo(r, n); got != 0 || code != impl.ErrRange {
				t.Error("ReduceTo", r, n, got, code)
			}
		}
	}
}

func TestPromise3InverseTimesNumberIsOne(t *testing.T) {
	for r, m := range validRings() {
		for _, a := range residuesOf(r, m) {
			got, code := impl.InverseOf(r, a)
			if a%r.Prime == 0 {
				if got != 0 || code != impl.ErrState {
					t.Fatal("InverseOf", r, a, got, code)
				}
				continue
			}
			if got < 0 || got >= m || got*a%m != 1 || code != impl.ErrNone {
				t.Fatal("InverseOf", r, a, got, code)
			}
		}
	}
	if got, code := impl.InverseOf(impl.Ring{Prime: 5, Precision: 2}, 2); got != 13 || code != impl.ErrNone {
		t.Error("InverseOf 2 by 25", got, code)
	}
}

func TestPromise3OrderDividesCountOfUnits(t *testing.T) {
	for r, m := range validRings() {
		units, code := impl.CountUnits(r)
		if units != m-m/r.Prime || code != impl.ErrNone {
			t.Error("CountUnits", r, units, code)
		}
		for _, a := range residuesOf(r, m) {
			order, code := impl.OrderOf(r, a)
			if a%r.Prime == 0 {
				if order != 0 || code != impl.ErrState {
					t.Fatal("OrderOf", r, a, order, code)
				}
				continue
			}
			if order < 1 || units%order != 0 || code != impl.ErrNone || exactPower(a, order, m) != 1 {
				t.Fatal("OrderOf", r, a, order, code)
			}
			// An exponent below the least one would show at a prime that divides the order.
			for q := int64(2); q <= impl.MaxPrime; q++ {
				if order%q == 0 && exactPower(a, order/q, m) == 1 {
					t.Fatal("OrderOf is not the least exponent", r, a, order, q)
				}
			}
		}
	}
}

func TestCountUnitsBySearch(t *testing.T) {
	for r, m := range validRings() {
		count := int64(0)
		for a := int64(0); a < m && m <= 20000; a++ {
			if a%r.Prime != 0 {
				count++
			}
		}
		if got, code := impl.CountUnits(r); m <= 20000 && got != count || code != impl.ErrNone {
			t.Error("CountUnits", r, got, code)
		}
	}
}

func TestOrderOfBySteps(t *testing.T) {
	for r, m := range validRings() {
		for a := int64(1); a < m && m <= 400; a++ {
			if a%r.Prime == 0 {
				continue
			}
			want, power := int64(1), a%m
			for ; power != 1; want++ {
				power = power * a % m
			}
			if got, code := impl.OrderOf(r, a); got != want || code != impl.ErrNone {
				t.Fatal("OrderOf", r, a, got, code)
			}
		}
	}
	for _, c := range [][4]int64{
		{2, 1, 1, 1}, {2, 2, 3, 2}, {2, 29, 3, 1 << 27}, {2, 29, 5, 1 << 27}, {2, 29, 1<<29 - 1, 2},
		{5, 2, 7, 4}, {3, 18, 2, 2 * 129140163}, {97, 4, 5, 96 * 912673}, {31, 6, 887503680, 2},
	} {
		if got, code := impl.OrderOf(impl.Ring{Prime: c[0], Precision: c[1]}, c[2]); got != c[3] || code != impl.ErrNone {
			t.Error("OrderOf", c, got, code)
		}
	}
}

func TestPowerOf(t *testing.T) {
	for r, m := range validRings() {
		for i, a := range residuesOf(r, m) {
			for _, e := range []int64{0, 1, 2, 3, 4, 5, 7, int64(i) + 8, m - 1, m, 1<<39 - 1, impl.MaxValue - 1, impl.MaxValue} {
				if got, code := impl.PowerOf(r, a, e); got != exactPower(a, e, m) || code != impl.ErrNone {
					t.Fatal("PowerOf", r, a, e, got, code)
				}
			}
		}
		for _, a := range []int64{0, 1, m - 1} {
			for _, e := range append(notValues(), -1) {
				if got, code := impl.PowerOf(r, a, e); got != 0 || code != impl.ErrRange {
					t.Fatal("PowerOf", r, a, e, got, code)
				}
			}
		}
	}
	for _, c := range [][5]int64{
		{5, 2, 2, 10, 24}, {2, 1, 0, 0, 1}, {2, 1, 0, 1, 0}, {2, 1, 1, 0, 1}, {97, 4, 0, 0, 1}, {97, 4, 0, impl.MaxValue, 0},
		{31, 6, 887503680, impl.MaxValue, 1}, {31, 6, 887503680, impl.MaxValue - 1, 887503680}, {2, 29, 2, 28, 1 << 28}, {2, 29, 2, 29, 0},
	} {
		if got, code := impl.PowerOf(impl.Ring{Prime: c[0], Precision: c[1]}, c[2], c[3]); got != c[4] || code != impl.ErrNone {
			t.Error("PowerOf", c, got, code)
		}
	}
}

func TestPrimitiveRoot(t *testing.T) {
	known := map[int64]int64{
		2: 1, 3: 2, 5: 2, 7: 3, 11: 2, 13: 2, 17: 3, 19: 2, 23: 5, 29: 2, 31: 3, 37: 2, 41: 6,
		43: 3, 47: 5, 53: 2, 59: 2, 61: 2, 67: 2, 71: 7, 73: 5, 79: 3, 83: 2, 89: 3, 97: 5,
	}
	for p := int64(-3); p <= 1000; p++ {
		want, code := known[p], int64(impl.ErrNone)
		if want == 0 {
			code = impl.ErrInvalid
		}
		if got, gotCode := impl.PrimitiveRoot(p); got != want || gotCode != code {
			t.Error("PrimitiveRoot", p, got, gotCode)
		}
	}
	for _, p := range append(notValues(), -97, 999983, impl.MaxValue, 1<<32+3) {
		if got, code := impl.PrimitiveRoot(p); got != 0 || code != impl.ErrInvalid {
			t.Error("PrimitiveRoot", p, got, code)
		}
	}
}

func TestTeichmuellerOf(t *testing.T) {
	for r, m := range validRings() {
		for _, a := range residuesOf(r, m) {
			got, code := impl.TeichmuellerOf(r, a)
			if got != exactPower(a, m/r.Prime, m) || code != impl.ErrNone {
				t.Fatal("TeichmuellerOf", r, a, got, code)
			}
			if a%r.Prime != 0 && (got%r.Prime != a%r.Prime || exactPower(got, r.Prime-1, m) != 1) {
				t.Fatal("TeichmuellerOf has another remainder or order", r, a, got)
			}
		}
	}
	for _, c := range [][4]int64{
		{5, 2, 2, 7}, {5, 2, 0, 0}, {5, 2, 5, 0}, {5, 2, 24, 24}, {5, 1, 3, 3}, {5, 1, 0, 0},
		{2, 1, 1, 1}, {2, 1, 0, 0}, {2, 2, 3, 1}, {2, 2, 2, 0}, {2, 29, 1<<29 - 1, 1}, {97, 4, 88529280, 88529280}, {97, 4, 97, 0},
	} {
		if got, code := impl.TeichmuellerOf(impl.Ring{Prime: c[0], Precision: c[1]}, c[2]); got != c[3] || code != impl.ErrNone {
			t.Error("TeichmuellerOf", c, got, code)
		}
	}
}

func TestIsSquareResidue(t *testing.T) {
	for p, prime := range primeTable(impl.MaxPrime) {
		if !prime {
			continue
		}
		squares := map[int]int64{}
		for s := 1; s < p; s++ {
			squares[s*s%p] = 1
		}
		for a := range 3 * p {
			want := int64(-1)
			if a%p == 0 {
				want = 0
			} else if squares[a%p] == 1 {
				want = 1
			}
			far := impl.MaxValue / int64(p) * int64(p)
			for _, n := range []int64{int64(a), int64(a) - int64(3*p), int64(a) + far - int64(3*p), int64(a) - far} {
				if got, code := impl.IsSquareResidue(int64(p), n); got != want || code != impl.ErrNone {
					t.Fatal("IsSquareResidue", p, n, got, code)
				}
			}
		}
	}
	for _, c := range [][3]int64{
		{2, 0, 0}, {2, 1, 1}, {2, -1, 1}, {2, 3, 1}, {2, impl.MaxValue, 0}, {2, 1 - impl.MaxValue, 1}, {7, 2, 1}, {7, 3, -1}, {7, -1, -1}, {5, -1, 1},
		{97, impl.MaxValue, 1}, {7, -impl.MaxValue, -1}, {5, -impl.MaxValue, 0},
	} {
		if got, code := impl.IsSquareResidue(c[0], c[1]); got != c[2] || code != impl.ErrNone {
			t.Error("IsSquareResidue", c, got, code)
		}
	}
}

func TestIsSquareResidueErrors(t *testing.T) {
	for _, p := range append(notValues(), -7, -2, -1, 0, 1, 4, 9, 91, 98, 101, 999983, impl.MaxValue) {
		for _, a := range append(notValues(), 0, 1, -1, impl.MaxValue) {
			if got, code := impl.IsSquareResidue(p, a); got != 0 || code != impl.ErrInvalid {
				t.Error("IsSquareResidue", p, a, got, code)
			}
		}
	}
	for _, p := range []int64{2, 3, 7, 97} {
		for _, a := range notValues() {
			if got, code := impl.IsSquareResidue(p, a); got != 0 || code != impl.ErrRange {
				t.Error("IsSquareResidue", p, a, got, code)
			}
		}
	}
}
