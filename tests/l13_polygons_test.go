package tests

import (
	"fmt"
	"math"
	"math/big"
	"slices"
	"sync"
	"testing"

	"loop.example/g01000/impl"
)

func corner(x, y int64) impl.Corner {
	return impl.Corner{X: x, Y: y}
}

func slope(rise, run, length int64) impl.Slope {
	return impl.Slope{Rise: rise, Run: run, Length: length}
}

// timesBy gives how often p divides n, other than 0.
func timesBy(p, n int64) int64 {
	count := int64(0)
	for power := p; n%power == 0; power *= p {
		count++
	}
	return count
}

// exactPoints gives the points of a polynomial.
func exactPoints(p int64, f []int64) []impl.Corner {
	points := []impl.Corner{}
	for i, n := range f {
		if n != 0 {
			points = append(points, corner(int64(i), timesBy(p, n)))
		}
	}
	return points
}

// lowestLine gives, as a fraction, the least height at x of all lines between two points (or at one) that
// an index in besides has not, and false if there is none.
func lowestLine(points []impl.Corner, x int64, besides int) (num, den int64, ok bool) {
	for i, a := range points {
		for j, b := range points[i:] {
			if i == besides || i+j == besides || x < a.X || b.X < x {
				continue
			}
			up, run := a.Y, int64(1)
			if a.X < b.X {
				run = b.X - a.X
				up = a.Y*(b.X-x) + b.Y*(x-a.X)
			}
			if !ok || up*den < num*run {
				num, den, ok = up, run, true
			}
		}
	}
	return num, den, ok
}

// exactCorners gives the corners of the Newton polygon: the points that are below all lines between other
// ones, or beside all of these.
func exactCorners(points []impl.Corner) []impl.Corner {
	corners := []impl.Corner{}
	for i, point := range points {
		if num, den, ok := lowestLine(points, point.X, i); !ok || point.Y*den < num {
			corners = append(corners, point)
		}
	}
	return corners
}

// exactSlopes gives the slopes of the pieces between corners. The Run is the first one at which the piece
// has a whole height.
func exactSlopes(corners []impl.Corner) []impl.Slope {
	slopes := []impl.Slope{}
	for i := range len(corners) - 1 {
		length, up := corners[i+1].X-corners[i].X, corners[i+1].Y-corners[i].Y
		run := int64(1)
		for up*run%length != 0 {
			run++
		}
		slopes = append(slopes, slope(up*run/length, run, length))
	}
	return slopes
}

// exactLattice counts pairs of integers one after the other.
func exactLattice(points []impl.Corner) int64 {
	count := int64(0)
	for x := points[0].X + 1; x < points[len(points)-1].X; x++ {
		num, den, _ := lowestLine(points, x, -1)
		for y := int64(1); y*den <= num; y++ {
			count++
		}
	}
	return count
}

// lengthWith gives the length of the slope rise / run, or 0.
func lengthWith(slopes []impl.Slope, rise, run int64) int64 {
	for _, s := range slopes {
		if s.Rise*run == rise*s.Run {
			return s.Length
		}
	}
	return 0
}

// polynomialsWith gives polynomials with length coefficients each of which is 0 or a number with one of the
// valuations 0..most by p, in all ways.
func polynomialsWith(p int64, length int, most int64) [][]int64 {
	step := coefficientSteps(uint64(p)*64 + uint64(length))
	list := [][]int64{}
	for _, digits := range digitLists(most+2, length) {
		if digits[length-1] == 0 {
			continue
		}
		f := make([]int64, length)
		for i, digit := range digits {
			if digit > 0 {
				f[i] = withValuation(p, digit-1, step)
			}
		}
		list = append(list, f)
	}
	return list
}

// withValuation gives a coefficient with a valuation by p, of either sign.
func withValuation(p, valuation int64, step func(bound int64) int64) int64 {
	power := int64(1)
	for range valuation {
		power *= p
	}
	n := step(min(largestCoefficient/power, 40) + 1)
	for n%p == 0 {
		n = step(2)
	}
	return n * power
}

// steepPolynomials gives polynomials of each degree whose coefficients are 0 or have any valuations by p,
// half of them near to one line, so that many points lie on it or just above.
func steepPolynomials(p int64, count int) [][]int64 {
	_, most := greatestFactor(p)
	step := coefficientSteps(uint64(p) + 1313)
	choose := choices(p + 1313)
	list := [][]int64{}
	for length := 1; length <= impl.MaxDegree+1; length++ {
		for turn := range count {
			first, last := int64(choose(int(most)+1)), int64(choose(int(most)+1))
			f := make([]int64, length)
			for i := range f {
				valuation := int64(choose(int(most) + 1))
				if turn%2 == 0 {
					line := first * int64(length-1)
					if length > 1 {
						line = first + ((last-first)*int64(i)+int64(length-2))/int64(length-1)
					}
					valuation = min(max(line, 0)+int64(choose(2)), most)
				}
				if choose(5) > 0 || i == length-1 {
					f[i] = withValuation(p, valuation, step)
				}
			}
			list = append(list, f)
		}
	}
	return list
}

// polygonPolynomials gives valid polynomials other than 0 for a prime.
func polygonPolynomials(p int64) [][]int64 {
	list := slices.Concat(rootPolynomials(p), widePolynomials(), steepPolynomials(p, 60))
	for length := 1; length <= 4; length++ {
		list = append(list, polynomialsWith(p, length, 2)...)
	}
	if p <= 5 {
		list = append(list, polynomialsWith(p, 5, 3)...)
		list = append(list, polynomialsWith(p, 6, 1)...)
	}
	return slices.DeleteFunc(list, func(f []int64) bool { return len(f) == 0 || !impl.IsPolynomial(f) })
}

// checkPolygon compares all functions of chapter 13 with the lines between all points, and counts what
// occurs.
func checkPolygon(t *testing.T, p int64, f []int64, counts map[string]int) {
	t.Helper()
	wantPoints := exactPoints(p, f)
	if points, code := impl.PointsOf(p, f); !slices.Equal(points, wantPoints) || code != impl.ErrNone {
		t.Fatal("PointsOf", p, f, points, code, wantPoints)
	}
	wantCorners := exactCorners(wantPoints)
	if corners, code := impl.PolygonOf(p, f); !slices.Equal(corners, wantCorners) || code != impl.ErrNone {
		t.Fatal("PolygonOf", p, f, corners, code, wantCorners)
	}
	want := exactSlopes(wantCorners)
	if slopes, code := impl.SlopesOf(p, f); !slices.Equal(slopes, want) || code != impl.ErrNone {
		t.Fatal("SlopesOf", p, f, slopes, code, want)
	}
	isPure := len(want) == 1 && f[0] != 0
	if got, code := impl.IsPure(p, f); got != isPure || code != impl.ErrNone {
		t.Fatal("IsPure", p, f, got, code)
	}
	lattice := exactLattice(wantPoints)
	if got, code := impl.LatticeBelow(p, f); got != lattice || code != impl.ErrNone {
		t.Fatal("LatticeBelow", p, f, got, code, lattice)
	}
	checkHeights(t, p, f, wantPoints)
	checkLengths(t, p, f, want)
	counts[fmt.Sprint(min(len(want), 4), " pieces")]++
	for name, occurs := range map[string]bool{
		"pure": isPure, "one piece behind 0": len(want) == 1 && f[0] == 0, "lattice": lattice > 0,
		"points that are no corners": len(wantPoints) > len(wantCorners),
		"rising":                     slices.ContainsFunc(want, func(s impl.Slope) bool { return s.Rise > 0 }),
		"falling":                    slices.ContainsFunc(want, func(s impl.Slope) bool { return s.Rise < 0 }),
		"level":                      slices.ContainsFunc(want, func(s impl.Slope) bool { return s.Rise == 0 }),
		"no integer":                 slices.ContainsFunc(want, func(s impl.Slope) bool { return s.Run > 1 }),
		"several runs":               slices.ContainsFunc(want, func(s impl.Slope) bool { return s.Run > 1 && s.Length > s.Run }),
		"points on pieces":           hasPointOnPiece(wantPoints, wantCorners),
	} {
		if occurs {
			counts[name]++
		}
	}
}

// hasPointOnPiece tells whether a point that is no corner is as low as the polygon.
func hasPointOnPiece(points, corners []impl.Corner) bool {
	return slices.ContainsFunc(points, func(point impl.Corner) bool {
		num, den, _ := lowestLine(corners, point.X, -1)
		return !slices.Contains(corners, point) && point.Y*den == num
	})
}

// checkHeights compares HeightOf with the lowest lines, and asks outside of the polygon, too.
func checkHeights(t *testing.T, p int64, f []int64, points []impl.Corner) {
	t.Helper()
	first, last := points[0].X, points[len(points)-1].X
	for x := int64(-2); x <= impl.MaxDegree+2; x++ {
		got, code := impl.HeightOf(p, f, x)
		if x < first || last < x {
			if got != (impl.Rational{}) || code != impl.ErrRange {
				t.Fatal("HeightOf", p, f, x, got, code)
			}
			continue
		}
		num, den, _ := lowestLine(points, x, -1)
		if want, _ := impl.MakeRational(num, den); got != want || code != impl.ErrNone || !impl.IsRational(got) || got.Num*den != num*got.Den {
			t.Fatal("HeightOf", p, f, x, got, code, want)
		}
	}
}

// checkLengths asks CountWithSlope for the slopes, also not in lowest terms, and for ones beside them.
func checkLengths(t *testing.T, p int64, f []int64, slopes []impl.Slope) {
	t.Helper()
	for _, s := range append(slices.Clone(slopes), slope(0, 1, 0), slope(-1, 2, 0)) {
		for times := int64(1); times*s.Run <= impl.MaxDegree; times++ {
			for step := int64(-1); step <= 1; step++ {
				rise, run := times*s.Rise+step, times*s.Run
				if rise < -impl.MaxValuation || rise > impl.MaxValuation {
					continue
				}
				if got, code := impl.CountWithSlope(p, f, rise, run); got != lengthWith(slopes, rise, run) || code != impl.ErrNone {
					t.Fatal("CountWithSlope", p, f, rise, run, got, code, slopes)
				}
			}
		}
	}
}

func TestPolygonsAreLowestLines(t *testing.T) {
	counts := map[string]int{}
	for _, p := range basePrimes() {
		for _, f := range polygonPolynomials(p) {
			checkPolygon(t, p, f, counts)
		}
	}
	for _, name := range []string{"0 pieces", "1 pieces", "2 pieces", "3 pieces", "4 pieces", "pure", "one piece behind 0", "lattice", "points that are no corners", "rising", "falling", "level", "no integer", "several runs", "points on pieces"} {
		if counts[name] < 100 {
			t.Error("polygons with", name, counts)
		}
	}
}

func TestPolygons(t *testing.T) {
	eight := func(first, last int64) []int64 { return append([]int64{first}, append(make([]int64, 7), last)...) }
	for _, c := range []struct {
		p       int64
		f       []int64
		points  []impl.Corner
		corners []impl.Corner
		slopes  []impl.Slope
		isPure  bool
		lattice int64
	}{
		// Constants and other polynomials with one term.
		{2, []int64{1}, []impl.Corner{{}}, []impl.Corner{{}}, nil, false, 0},
		{2, []int64{-524288}, []impl.Corner{corner(0, 19)}, []impl.Corner{corner(0, 19)}, nil, false, 0},
		{97, []int64{912673}, []impl.Corner{corner(0, 3)}, []impl.Corner{corner(0, 3)}, nil, false, 0},
		{97, []int64{-1000000}, []impl.Corner{{}}, []impl.Corner{{}}, nil, false, 0},
		{3, []int64{0, -9}, []impl.Corner{corner(1, 2)}, []impl.Corner{corner(1, 2)}, nil, false, 0},
		{3, append(make([]int64, 8), 531441), []impl.Corner{corner(8, 12)}, []impl.Corner{corner(8, 12)}, nil, false, 0},
		// The degrees 1 and 8.
		{2, []int64{4, 1}, []impl.Corner{corner(0, 2), corner(1, 0)}, []impl.Corner{corner(0, 2), corner(1, 0)}, []impl.Slope{slope(-2, 1, 1)}, true, 0},
		{97, []int64{-1, 9409}, []impl.Corner{corner(0, 0), corner(1, 2)}, []impl.Corner{corner(0, 0), corner(1, 2)}, []impl.Slope{slope(2, 1, 1)}, true, 0},
		{2, eight(524288, 1), []impl.Corner{corner(0, 19), corner(8, 0)}, []impl.Corner{corner(0, 19), corner(8, 0)}, []impl.Slope{slope(-19, 8, 8)}, true, 63},
		{2, eight(-1, 524288), []impl.Corner{corner(0, 0), corner(8, 19)}, []impl.Corner{corner(0, 0), corner(8, 19)}, []impl.Slope{slope(19, 8, 8)}, true, 63},
		{2, eight(64, 1), []impl.Corner{corner(0, 6), corner(8, 0)}, []impl.Corner{corner(0, 6), corner(8, 0)}, []impl.Slope{slope(-3, 4, 8)}, true, 18},
		{3, eight(6, 6), []impl.Corner{corner(0, 1), corner(8, 1)}, []impl.Corner{corner(0, 1), corner(8, 1)}, []impl.Slope{slope(0, 1, 8)}, true, 7},
		{3, eight(5, -7), []impl.Corner{corner(0, 0), corner(8, 0)}, []impl.Corner{corner(0, 0), corner(8, 0)}, []impl.Slope{slope(0, 1, 8)}, true, 0},
		// Points on a piece, at all integers or at some, and above it.
		{2, []int64{4, 2, 1}, []impl.Corner{corner(0, 2), corner(1, 1), corner(2, 0)}, []impl.Corner{corner(0, 2), corner(2, 0)}, []impl.Slope{slope(-1, 1, 2)}, true, 1},
		{2, []int64{4, -4, 1}, []impl.Corner{corner(0, 2), corner(1, 2), corner(2, 0)}, []impl.Corner{corner(0, 2), corner(2, 0)}, []impl.Slope{slope(-1, 1, 2)}, true, 1},
		{2, []int64{4, 0, 1}, []impl.Corner{corner(0, 2), corner(2, 0)}, []impl.Corner{corner(0, 2), corner(2, 0)}, []impl.Slope{slope(-1, 1, 2)}, true, 1},
		{3, []int64{9, 0, 3, 0, -1}, []impl.Corner{corner(0, 2), corner(2, 1), corner(4, 0)}, []impl.Corner{corner(0, 2), corner(4, 0)}, []impl.Slope{slope(-1, 2, 4)}, true, 2},
		{97, []int64{1, 97, 9409, 912673}, []impl.Corner{corner(0, 0), corner(1, 1), corner(2, 2), corner(3, 3)}, []impl.Corner{corner(0, 0), corner(3, 3)}, []impl.Slope{slope(1, 1, 3)}, true, 3},
		{3, repeated(-1, 9), []impl.Corner{corner(0, 0), corner(1, 0), corner(2, 0), corner(3, 0), corner(4, 0), corner(5, 0), corner(6, 0), corner(7, 0), corner(8, 0)}, []impl.Corner{corner(0, 0), corner(8, 0)}, []impl.Slope{slope(0, 1, 8)}, true, 0},
		{2, []int64{1, 8, 4, 16, 1}, []impl.Corner{corner(0, 0), corner(1, 3), corner(2, 2), corner(3, 4), corner(4, 0)}, []impl.Corner{corner(0, 0), corner(4, 0)}, []impl.Slope{slope(0, 1, 4)}, true, 0},
		// A late point takes several corners away.
		{2, []int64{512, 64, 16, 8, 1}, []impl.Corner{corner(0, 9), corner(1, 6), corner(2, 4), corner(3, 3), corner(4, 0)}, []impl.Corner{corner(0, 9), corner(1, 6), corner(4, 0)}, []impl.Slope{slope(-3, 1, 1), slope(-2, 1, 3)}, false, 12},
		{2, []int64{256, 128, 64, 64, 64, 1}, []impl.Corner{corner(0, 8), corner(1, 7), corner(2, 6), corner(3, 6), corner(4, 6), corner(5, 0)}, []impl.Corner{corner(0, 8), corner(5, 0)}, []impl.Slope{slope(-8, 5, 5)}, true, 14},
		// Falling, level and rising pieces, some with slopes that are no integers.
		{2, []int64{8, 2, 0, 6, 1}, []impl.Corner{corner(0, 3), corner(1, 1), corner(3, 1), corner(4, 0)}, []impl.Corner{corner(0, 3), corner(1, 1), corner(4, 0)}, []impl.Slope{slope(-2, 1, 1), slope(-1, 3, 3)}, false, 1},
		{5, []int64{25, -5, 1, 3, 2, 10, 0, 0, 625}, []impl.Corner{corner(0, 2), corner(1, 1), corner(2, 0), corner(3, 0), corner(4, 0), corner(5, 1), corner(8, 4)}, []impl.Corner{corner(0, 2), corner(2, 0), corner(4, 0), corner(8, 4)}, []impl.Slope{slope(-1, 1, 2), slope(0, 1, 2), slope(1, 1, 4)}, false, 7},
		{7, []int64{7, 0, 1, 0, 0, 49}, []impl.Corner{corner(0, 1), corner(2, 0), corner(5, 2)}, []impl.Corner{corner(0, 1), corner(2, 0), corner(5, 2)}, []impl.Slope{slope(-1, 2, 2), slope(2, 3, 3)}, false, 1},
		{3, []int64{81, 27, 0, 3, 0, 3, 9, 0, 243}, []impl.Corner{corner(0, 4), corner(1, 3), corner(3, 1), corner(5, 1), corner(6, 2), corner(8, 5)}, []impl.Corner{corner(0, 4), corner(3, 1), corner(5, 1), corner(6, 2), corner(8, 5)}, []impl.Slope{slope(-1, 1, 3), slope(0, 1, 2), slope(1, 1, 1), slope(3, 2, 2)}, false, 13},
		{2, []int64{16, 8, 0, 2, 1, 0, 4}, []impl.Corner{corner(0, 4), corner(1, 3), corner(3, 1), corner(4, 0), corner(6, 2)}, []impl.Corner{corner(0, 4), corner(4, 0), corner(6, 2)}, []impl.Slope{slope(-1, 1, 4), slope(1, 1, 2)}, false, 7},
		// The root 0, once and more often.
		{2, []int64{0, 4, 0, 1}, []impl.Corner{corner(1, 2), corner(3, 0)}, []impl.Corner{corner(1, 2), corner(3, 0)}, []impl.Slope{slope(-1, 1, 2)}, false, 1},
		{97, []int64{0, 0, 0, 0, 0, 0, 0, 97, -97}, []impl.Corner{corner(7, 1), corner(8, 1)}, []impl.Corner{corner(7, 1), corner(8, 1)}, []impl.Slope{slope(0, 1, 1)}, false, 0},
		{3, []int64{0, 0, 9, 1, 0, 3}, []impl.Corner{corner(2, 2), corner(3, 0), corner(5, 1)}, []impl.Corner{corner(2, 2), corner(3, 0), corner(5, 1)}, []impl.Slope{slope(-2, 1, 1), slope(1, 2, 2)}, false, 0},
		{2, []int64{0, 1, 0, 0, 2}, []impl.Corner{corner(1, 0), corner(4, 1)}, []impl.Corner{corner(1, 0), corner(4, 1)}, []impl.Slope{slope(1, 3, 3)}, false, 0},
		// One polynomial, by three primes.
		{2, []int64{-1000000, 0, 0, 1}, []impl.Corner{corner(0, 6), corner(3, 0)}, []impl.Corner{corner(0, 6), corner(3, 0)}, []impl.Slope{slope(-2, 1, 3)}, true, 6},
		{5, []int64{-1000000, 0, 0, 1}, []impl.Corner{corner(0, 6), corner(3, 0)}, []impl.Corner{corner(0, 6), corner(3, 0)}, []impl.Slope{slope(-2, 1, 3)}, true, 6},
		{3, []int64{-1000000, 0, 0, 1}, []impl.Corner{corner(0, 0), corner(3, 0)}, []impl.Corner{corner(0, 0), corner(3, 0)}, []impl.Slope{slope(0, 1, 3)}, true, 0},
	} {
		points, code := impl.PointsOf(c.p, c.f)
		corners, two := impl.PolygonOf(c.p, c.f)
		slopes, three := impl.SlopesOf(c.p, c.f)
		isPure, four := impl.IsPure(c.p, c.f)
		lattice, five := impl.LatticeBelow(c.p, c.f)
		if !slices.Equal(points, c.points) || !slices.Equal(corners, c.corners) || !slices.Equal(slopes, c.slopes) || isPure != c.isPure || lattice != c.lattice {
			t.Error("polygon", c, points, corners, slopes, isPure, lattice)
		}
		if code != impl.ErrNone || two != impl.ErrNone || three != impl.ErrNone || four != impl.ErrNone || five != impl.ErrNone {
			t.Error("codes of a polygon", c, code, two, three, four, five)
		}
	}
}

func TestHeightOf(t *testing.T) {
	bent := []int64{8, 2, 0, 6, 1}
	for _, c := range []struct {
		p    int64
		f    []int64
		x    int64
		want impl.Rational
		code int64
	}{
		// At the corners, between them, and just outside.
		{2, bent, 0, rational(3, 1), impl.ErrNone}, {2, bent, 1, rational(1, 1), impl.ErrNone}, {2, bent, 2, rational(2, 3), impl.ErrNone}, {2, bent, 3, rational(1, 3), impl.ErrNone}, {2, bent, 4, rational(0, 1), impl.ErrNone}, {2, bent, 5, rational(0, 0), impl.ErrRange}, {2, bent, -1, rational(0, 0), impl.ErrRange},
		// The heights are in lowest terms.
		{2, []int64{64, 0, 0, 0, 0, 0, 0, 0, 1}, 2, rational(9, 2), impl.ErrNone}, {2, []int64{64, 0, 0, 0, 0, 0, 0, 0, 1}, 4, rational(3, 1), impl.ErrNone}, {2, []int64{524288, 0, 0, 0, 0, 0, 0, 0, 1}, 1, rational(133, 8), impl.ErrNone}, {2, []int64{524288, 0, 0, 0, 0, 0, 0, 0, 1}, 7, rational(19, 8), impl.ErrNone}, {3, []int64{1, 0, 1}, 1, rational(0, 1), impl.ErrNone}, {3, []int64{3, 0, 3}, 1, rational(1, 1), impl.ErrNone}, {97, []int64{1, 0, 97}, 1, rational(1, 2), impl.ErrNone},
		// The polygon begins behind 0.
		{3, []int64{0, 0, 9, 0, 0, 1}, 1, rational(0, 0), impl.ErrRange}, {3, []int64{0, 0, 9, 0, 0, 1}, 0, rational(0, 0), impl.ErrRange}, {3, []int64{0, 0, 9, 0, 0, 1}, 2, rational(2, 1), impl.ErrNone}, {3, []int64{0, 0, 9, 0, 0, 1}, 3, rational(4, 3), impl.ErrNone}, {3, []int64{0, 0, 9, 0, 0, 1}, 5, rational(0, 1), impl.ErrNone}, {3, []int64{0, 0, 9, 0, 0, 1}, 6, rational(0, 0), impl.ErrRange},
		// One corner.
		{97, []int64{97}, 0, rational(1, 1), impl.ErrNone}, {97, []int64{97}, 1, rational(0, 0), impl.ErrRange}, {97, []int64{97}, -1, rational(0, 0), impl.ErrRange}, {2, append(make([]int64, 8), -2), 8, rational(1, 1), impl.ErrNone}, {2, append(make([]int64, 8), -2), 7, rational(0, 0), impl.ErrRange}, {2, append(make([]int64, 8), -2), 9, rational(0, 0), impl.ErrRange}, {2, append(make([]int64, 8), -2), 0, rational(0, 0), impl.ErrRange},
	} {
		if got, code := impl.HeightOf(c.p, c.f, c.x); got != c.want || code != c.code {
			t.Error("HeightOf", c, got, code)
		}
	}
	for _, f := range [][]int64{{1}, {0, 2}, bent, repeated(1, 9)} {
		for _, x := range append(notValues(), -1, int64(len(f)), 1<<32, 1<<32+1, -1<<32, impl.MaxValue, -impl.MaxValue, math.MinInt64+1, math.MaxInt64-1) {
			if got, code := impl.HeightOf(2, f, x); got != (impl.Rational{}) || code != impl.ErrRange {
				t.Error("HeightOf", f, x, got, code)
			}
		}
	}
}

func TestCountWithSlope(t *testing.T) {
	most := int64(impl.MaxValuation)
	bent := []int64{16, 8, 0, 2, 1, 0, 4}
	steep := append([]int64{524288}, append(make([]int64, 7), 1)...)
	for _, c := range []struct {
		p         int64
		f         []int64
		rise, run int64
		want      int64
		code      int64
	}{
		// Slopes that occur, also not in lowest terms, and others.
		{2, bent, -1, 1, 4, impl.ErrNone}, {2, bent, 1, 1, 2, impl.ErrNone}, {2, bent, -2, 2, 4, impl.ErrNone}, {2, bent, -8, 8, 4, impl.ErrNone}, {2, bent, 7, 7, 2, impl.ErrNone}, {2, bent, 0, 1, 0, impl.ErrNone}, {2, bent, 1, 2, 0, impl.ErrNone}, {2, bent, -1, 8, 0, impl.ErrNone}, {2, bent, 2, 1, 0, impl.ErrNone}, {2, bent, -7, 8, 0, impl.ErrNone},
		{7, []int64{7, 0, 1, 0, 0, 49}, -1, 2, 2, impl.ErrNone}, {7, []int64{7, 0, 1, 0, 0, 49}, -4, 8, 2, impl.ErrNone}, {7, []int64{7, 0, 1, 0, 0, 49}, 2, 3, 3, impl.ErrNone}, {7, []int64{7, 0, 1, 0, 0, 49}, 4, 6, 3, impl.ErrNone}, {7, []int64{7, 0, 1, 0, 0, 49}, -2, 1, 0, impl.ErrNone}, {7, []int64{7, 0, 1, 0, 0, 49}, -2, 3, 0, impl.ErrNone}, {7, []int64{7, 0, 1, 0, 0, 49}, 3, 2, 0, impl.ErrNone}, {2, steep, -19, 8, 8, impl.ErrNone}, {2, steep, 19, 8, 0, impl.ErrNone}, {2, steep, -19, 7, 0, impl.ErrNone},
		{3, repeated(1, 9), 0, 1, 8, impl.ErrNone}, {3, repeated(1, 9), 0, 5, 8, impl.ErrNone}, {3, repeated(1, 9), 0, 8, 8, impl.ErrNone}, {97, []int64{0, 0, 97, 97}, 0, 3, 1, impl.ErrNone}, {2, []int64{524288, 1}, -19, 1, 1, impl.ErrNone}, {2, []int64{524288, 1}, -57, 3, 1, impl.ErrNone}, {2, []int64{1, 524288}, 38, 2, 1, impl.ErrNone},
		// No piece.
		{3, []int64{3}, 0, 1, 0, impl.ErrNone}, {3, []int64{0, 9}, 1, 1, 0, impl.ErrNone},
		// The limits of rise and run, and just beyond.
		{2, bent, most, 1, 0, impl.ErrNone}, {2, bent, -most, 1, 0, impl.ErrNone}, {2, bent, most, 8, 0, impl.ErrNone}, {2, bent, most + 1, 1, 0, impl.ErrRange}, {2, bent, -most - 1, 1, 0, impl.ErrRange}, {2, bent, 1, 0, 0, impl.ErrRange}, {2, bent, 9, 9, 0, impl.ErrRange}, {2, bent, -1, -1, 0, impl.ErrRange}, {2, bent, 1, -1, 0, impl.ErrRange}, {3, repeated(1, 9), 0, 0, 0, impl.ErrRange}, {3, repeated(1, 9), 0, 9, 0, impl.ErrRange}, {3, []int64{3}, 0, 0, 0, impl.ErrRange}, {3, []int64{3}, most + 1, 1, 0, impl.ErrRange},
		// Products with these would overflow.
		{3, repeated(1, 9), math.MinInt64, 8, 0, impl.ErrRange}, {3, repeated(1, 9), 0, math.MinInt64, 0, impl.ErrRange}, {2, bent, -1 << 32, 1 << 32, 0, impl.ErrRange}, {2, bent, 1<<32 - 1, 1, 0, impl.ErrRange}, {2, bent, 1, 1<<32 + 1, 0, impl.ErrRange}, {2, bent, math.MaxInt64, math.MaxInt64, 0, impl.ErrRange},
	} {
		if got, code := impl.CountWithSlope(c.p, c.f, c.rise, c.run); got != c.want || code != c.code {
			t.Error("CountWithSlope", c, got, code)
		}
	}
}

// TestAllSlopesAreAskedFor goes through all numbers that CountWithSlope accepts: in lowest terms, the
// lengths add up to that of the polygon.
func TestAllSlopesAreAskedFor(t *testing.T) {
	for _, p := range []int64{2, 3, 97} {
		for i, f := range polygonPolynomials(p) {
			if i%23 != 0 {
				continue
			}
			points, sum := exactPoints(p, f), int64(0)
			slopes := exactSlopes(exactCorners(points))
			for run := int64(1); run <= impl.MaxDegree; run++ {
				for rise := int64(-impl.MaxValuation); rise <= impl.MaxValuation; rise++ {
					got, code := impl.CountWithSlope(p, f, rise, run)
					if got != lengthWith(slopes, rise, run) || code != impl.ErrNone {
						t.Fatal("CountWithSlope", p, f, rise, run, got, code, slopes)
					}
					if divisor, _ := impl.CommonDivisor(rise, run); divisor == 1 {
						sum += got
					}
				}
			}
			if sum != points[len(points)-1].X-points[0].X {
				t.Fatal("the sum of all lengths", p, f, sum, points)
			}
		}
	}
}

// TestSlopesTellValuationsOfRoots takes products of linear polynomials a * x - b, whose roots b / a are
// known.
func TestSlopesTellValuationsOfRoots(t *testing.T) {
	products := 0
	for _, p := range basePrimes() {
		choose, step := choices(p+5), coefficientSteps(uint64(p)+5)
		for turn := range 400 {
			f, roots := []int64{1}, map[int64]int64{}
			for range 2 + turn%7 {
				up, down := int64(choose(3)), int64(choose(2+turn%2))
				a, b := withValuation(p, down, step), withValuation(p, up, step)
				if choose(9) == 0 {
					b = 0
				}
				longer := product(f, []int64{-b, a})
				if longer == nil {
					continue
				}
				f = longer
				if b != 0 {
					roots[up-down]++
				}
			}
			if len(f) == 1 {
				continue
			}
			products++
			for valuation := int64(-4); valuation <= 4; valuation++ {
				if got, code := impl.CountWithSlope(p, f, -valuation, 1); got != roots[valuation] || code != impl.ErrNone {
					t.Fatal("CountWithSlope", p, f, valuation, got, code, roots)
				}
			}
		}
	}
	if products < 5000 {
		t.Error("products", products)
	}
}

// exactJoined gives the slopes of lists, with the sum of all lengths for each, in increasing order.
func exactJoined(lists ...[]impl.Slope) []impl.Slope {
	lengths := map[impl.Slope]int64{}
	for _, list := range lists {
		for _, s := range list {
			lengths[slope(s.Rise, s.Run, 0)] += s.Length
		}
	}
	joined := []impl.Slope{}
	for s, length := range lengths {
		joined = append(joined, slope(s.Rise, s.Run, length))
	}
	slices.SortFunc(joined, func(a, b impl.Slope) int { return big.NewRat(a.Rise, a.Run).Cmp(big.NewRat(b.Rise, b.Run)) })
	return joined
}

// factorsFor gives polynomials of small degrees for products whose coefficients stay valid.
func factorsFor(p int64) [][]int64 {
	list := [][]int64{}
	for _, f := range slices.Concat(rootPolynomials(p), steepPolynomials(p, 8)) {
		if len(f) <= 6 {
			list = append(list, f)
		}
	}
	for length := 1; length <= 3; length++ {
		list = append(list, polynomialsWith(p, length, 1)...)
	}
	for i, f := range polynomialsWith(p, 4, 2) {
		if i%9 == 0 {
			list = append(list, f)
		}
	}
	return list
}

// TestPromise13SlopesOfProducts multiplies all pairs of factors whose product is valid.
func TestPromise13SlopesOfProducts(t *testing.T) {
	counts := map[string]int{}
	for _, p := range basePrimes() {
		for _, f := range factorsFor(p) {
			for _, g := range factorsFor(p) {
				product, code := impl.MultiplyPolynomials(f, g)
				if code != impl.ErrNone {
					continue
				}
				a, _ := impl.SlopesOf(p, f)
				b, _ := impl.SlopesOf(p, g)
				joined, code := impl.JoinSlopes(a, b)
				got, two := impl.SlopesOf(p, product)
				if !slices.Equal(got, joined) || !slices.Equal(got, exactJoined(a, b)) || code != impl.ErrNone || two != impl.ErrNone {
					t.Fatal("slopes of a product", p, f, g, product, got, joined, code, two)
				}
				first, _ := impl.PolygonOf(p, f)
				second, _ := impl.PolygonOf(p, g)
				corners, _ := impl.PolygonOf(p, product)
				if corners[0] != corner(first[0].X+second[0].X, first[0].Y+second[0].Y) {
					t.Fatal("the first corner of a product", p, f, g, corners, first, second)
				}
				counts[fmt.Sprint(len(got), " slopes")]++
				if len(got) < len(a)+len(b) {
					counts["equal slopes"]++
				}
				if len(a) > 1 && len(b) > 0 && !slices.Equal(got, slices.Concat(a, b)) && !slices.Equal(got, slices.Concat(b, a)) {
					counts["mixed slopes"]++
				}
			}
		}
	}
	for _, name := range []string{"0 slopes", "1 slopes", "2 slopes", "3 slopes", "4 slopes", "equal slopes", "mixed slopes"} {
		if counts[name] < 500 {
			t.Error("products with", name, counts)
		}
	}
}

// TestPromise13SlopesOfSeveralFactors multiplies linear and quadratic polynomials one after the other, and
// joins slope by slope.
func TestPromise13SlopesOfSeveralFactors(t *testing.T) {
	for _, p := range []int64{2, 3, 5, 7, 31, 97} {
		choose := choices(p)
		factors := slices.Concat(polynomialsWith(p, 2, 1), polynomialsWith(p, 3, 1))
		for range 400 {
			f, joined := []int64{1}, []impl.Slope{}
			for range 8 {
				g := factors[choose(len(factors))]
				longer, code := impl.MultiplyPolynomials(f, g)
				if code != impl.ErrNone {
					continue
				}
				more, _ := impl.SlopesOf(p, g)
				f = longer
				joined, _ = impl.JoinSlopes(joined, more)
				if got, code := impl.SlopesOf(p, f); !slices.Equal(got, joined) || code != impl.ErrNone {
					t.Fatal("slopes of a product", p, f, g, got, joined)
				}
			}
		}
	}
}

// allFractions gives all slopes in lowest terms whose Rise and Run are in their ranges, with a Length that
// is the Run, in increasing order.
func allFractions() []impl.Slope {
	list := []impl.Slope{}
	for run := int64(1); run <= impl.MaxDegree; run++ {
		for rise := int64(-impl.MaxValuation); rise <= impl.MaxValuation; rise++ {
			if divisor, _ := impl.CommonDivisor(rise, run); divisor == 1 {
				list = append(list, slope(rise, run, run))
			}
		}
	}
	return exactJoined(list)
}

// slopeLists gives valid lists of 0 to MaxDegree slopes: neighbouring fractions, ones that are spread, and
// few ones that many lists share.
func slopeLists(count int) [][]impl.Slope {
	fractions, choose := allFractions(), choices(13)
	lists := [][]impl.Slope{nil, {}, {slope(0, 1, 1)}, {slope(0, 1, impl.MaxDegree)}, {fractions[0]}, {fractions[len(fractions)-1]}, {fractions[0], fractions[len(fractions)-1]}}
	for turn := range count {
		pool := fractions
		if turn%3 > 0 {
			first := choose(len(fractions) - 12*(turn%3))
			pool = fractions[first : first+12*(turn%3)]
		}
		if turn%7 == 0 {
			pool = []impl.Slope{slope(-60, 1, 1), slope(-1, 1, 1), slope(-1, 2, 2), slope(-1, 8, 8), slope(0, 1, 1), slope(1, 8, 8), slope(1, 3, 3), slope(1, 1, 1), slope(60, 7, 7), slope(60, 1, 1)}
		}
		list := []impl.Slope{}
		for range choose(impl.MaxDegree + 1) {
			list = append(list, pool[choose(len(pool))])
		}
		list = exactJoined(list)
		for i := range list {
			list[i].Length = list[i].Run * int64(1+choose(int(impl.MaxDegree/list[i].Run)))
		}
		lists = append(lists, list)
	}
	for first := 0; first+impl.MaxDegree <= len(fractions); first += 50 {
		lists = append(lists, slices.Clone(fractions[first:first+impl.MaxDegree]))
	}
	return lists
}

func TestJoinedSlopesAreExact(t *testing.T) {
	lists := slopeLists(300)
	counts := map[int]int{}
	for _, a := range lists {
		for _, b := range lists {
			want := exactJoined(a, b)
			if got, code := impl.JoinSlopes(a, b); !slices.Equal(got, want) || code != impl.ErrNone {
				t.Fatal("JoinSlopes", a, b, got, code, want)
			}
			counts[len(want)]++
		}
	}
	for length := range 2*impl.MaxDegree + 1 {
		if counts[length] == 0 {
			t.Error("joined lists with the length", length, counts)
		}
	}
}

func TestJoinSlopes(t *testing.T) {
	const most, degree = impl.MaxValuation, impl.MaxDegree
	one := slope(1, 1, 1)
	short, long := []impl.Slope{}, []impl.Slope{}
	for i := range int64(degree) {
		short = append(short, slope(2*i, 1, 1))
		long = append(long, slope(2*i+1, 1, degree))
	}
	mixed := exactJoined(short, long)
	for _, c := range []struct {
		a, b, want []impl.Slope
		code       int64
	}{
		{nil, nil, nil, impl.ErrNone}, {[]impl.Slope{}, nil, nil, impl.ErrNone}, {[]impl.Slope{one}, nil, []impl.Slope{one}, impl.ErrNone}, {[]impl.Slope{one}, []impl.Slope{}, []impl.Slope{one}, impl.ErrNone},
		{[]impl.Slope{slope(-1, 1, 2)}, []impl.Slope{slope(-1, 1, 2)}, []impl.Slope{slope(-1, 1, 4)}, impl.ErrNone}, {[]impl.Slope{slope(-1, 1, 2)}, []impl.Slope{slope(1, 1, 2)}, []impl.Slope{slope(-1, 1, 2), slope(1, 1, 2)}, impl.ErrNone}, {[]impl.Slope{slope(-2, 1, 1), slope(-1, 3, 3)}, []impl.Slope{slope(-1, 2, 4), slope(-1, 3, 6)}, []impl.Slope{slope(-2, 1, 1), slope(-1, 2, 4), slope(-1, 3, 9)}, impl.ErrNone},
		// Slopes that differ little, and the signs.
		{[]impl.Slope{slope(most, 7, 7)}, []impl.Slope{slope(59, 7, 7)}, []impl.Slope{slope(59, 7, 7), slope(most, 7, 7)}, impl.ErrNone}, {[]impl.Slope{slope(1, 7, 7)}, []impl.Slope{slope(1, 8, 8)}, []impl.Slope{slope(1, 8, 8), slope(1, 7, 7)}, impl.ErrNone}, {[]impl.Slope{slope(-1, 8, 8)}, []impl.Slope{slope(-1, 7, 7)}, []impl.Slope{slope(-1, 7, 7), slope(-1, 8, 8)}, impl.ErrNone}, {[]impl.Slope{slope(0, 1, 1)}, []impl.Slope{slope(-1, 8, 8), slope(1, 8, 8)}, []impl.Slope{slope(-1, 8, 8), slope(0, 1, 1), slope(1, 8, 8)}, impl.ErrNone},
		// Lengths and numbers of slopes beyond MaxDegree.
		{[]impl.Slope{slope(0, 1, degree)}, []impl.Slope{slope(0, 1, degree)}, []impl.Slope{slope(0, 1, 2*degree)}, impl.ErrNone}, {[]impl.Slope{slope(5, 8, 8)}, []impl.Slope{slope(5, 8, 8)}, []impl.Slope{slope(5, 8, 16)}, impl.ErrNone}, {short, long, mixed, impl.ErrNone}, {short, short, exactJoined(short, short), impl.ErrNone}, {append(slices.Clone(short), one), nil, nil, impl.ErrInvalid}, {append(slices.Clone(short), slope(degree*2, 1, 1)), nil, nil, impl.ErrInvalid},
		// The limits of each number, and just beyond.
		{[]impl.Slope{slope(most, 1, 1)}, []impl.Slope{slope(-most, 1, 1)}, []impl.Slope{slope(-most, 1, 1), slope(most, 1, 1)}, impl.ErrNone}, {[]impl.Slope{slope(most+1, 1, 1)}, nil, nil, impl.ErrInvalid}, {[]impl.Slope{slope(-most-1, 1, 1)}, nil, nil, impl.ErrInvalid}, {[]impl.Slope{slope(1, 0, 1)}, nil, nil, impl.ErrInvalid}, {[]impl.Slope{slope(1, -1, 1)}, nil, nil, impl.ErrInvalid}, {[]impl.Slope{slope(1, degree, degree)}, nil, []impl.Slope{slope(1, degree, degree)}, impl.ErrNone}, {[]impl.Slope{slope(1, degree+1, degree+1)}, nil, nil, impl.ErrInvalid}, {[]impl.Slope{slope(1, degree+1, degree)}, nil, nil, impl.ErrInvalid}, {[]impl.Slope{slope(1, 1, degree)}, nil, []impl.Slope{slope(1, 1, degree)}, impl.ErrNone}, {[]impl.Slope{slope(1, 1, degree+1)}, nil, nil, impl.ErrInvalid}, {[]impl.Slope{slope(1, 1, 0)}, nil, nil, impl.ErrInvalid}, {[]impl.Slope{slope(1, 1, -1)}, nil, nil, impl.ErrInvalid}, {[]impl.Slope{slope(1, 2, -2)}, nil, nil, impl.ErrInvalid}, {[]impl.Slope{slope(1, 3, 9)}, nil, nil, impl.ErrInvalid}, {[]impl.Slope{slope(1, 3, 0)}, nil, nil, impl.ErrInvalid}, {[]impl.Slope{{}}, nil, nil, impl.ErrInvalid}, {[]impl.Slope{slope(0, 0, 1)}, nil, nil, impl.ErrInvalid},
		// A common divisor, and a Length that is no multiple of Run.
		{[]impl.Slope{slope(2, 2, 2)}, nil, nil, impl.ErrInvalid}, {[]impl.Slope{slope(-6, 4, 4)}, nil, nil, impl.ErrInvalid}, {[]impl.Slope{slope(0, 2, 2)}, nil, nil, impl.ErrInvalid}, {[]impl.Slope{slope(0, 8, 8)}, nil, nil, impl.ErrInvalid}, {[]impl.Slope{slope(60, 6, 6)}, nil, nil, impl.ErrInvalid}, {[]impl.Slope{slope(1, 2, 3)}, nil, nil, impl.ErrInvalid}, {[]impl.Slope{slope(1, 2, 1)}, nil, nil, impl.ErrInvalid}, {[]impl.Slope{slope(5, 8, 4)}, nil, nil, impl.ErrInvalid}, {[]impl.Slope{slope(5, 3, 8)}, nil, nil, impl.ErrInvalid},
		// The order in one list.
		{[]impl.Slope{one, one}, nil, nil, impl.ErrInvalid}, {[]impl.Slope{slope(1, 2, 2), slope(1, 2, 4)}, nil, nil, impl.ErrInvalid}, {[]impl.Slope{one, slope(0, 1, 1)}, nil, nil, impl.ErrInvalid}, {[]impl.Slope{slope(1, 7, 7), slope(1, 8, 8)}, nil, nil, impl.ErrInvalid}, {[]impl.Slope{slope(1, 8, 8), slope(1, 7, 7)}, nil, []impl.Slope{slope(1, 8, 8), slope(1, 7, 7)}, impl.ErrNone}, {[]impl.Slope{slope(-1, 8, 8), slope(-1, 7, 7)}, nil, nil, impl.ErrInvalid}, {[]impl.Slope{slope(0, 1, 1), one, slope(1, 2, 2)}, nil, nil, impl.ErrInvalid}, {[]impl.Slope{slope(3, 2, 2), slope(5, 4, 4)}, nil, nil, impl.ErrInvalid}, {[]impl.Slope{slope(5, 4, 4), slope(3, 2, 2)}, []impl.Slope{one}, []impl.Slope{one, slope(5, 4, 4), slope(3, 2, 2)}, impl.ErrNone},
	} {
		for _, pair := range [][2][]impl.Slope{{c.a, c.b}, {c.b, c.a}} {
			if got, code := impl.JoinSlopes(pair[0], pair[1]); !slices.Equal(got, c.want) || code != c.code {
				t.Error("JoinSlopes", pair, got, code, c.want)
			}
		}
	}
}

// notSlopes gives slopes each of which misses one condition, or several.
func notSlopes() []impl.Slope {
	list := []impl.Slope{{}, slope(2, 2, 2), slope(0, 2, 2), slope(0, 8, 8), slope(-4, 8, 8), slope(1, 2, 3), slope(1, 3, 8), slope(1, 8, 7), slope(3, 5, 3)}
	for _, n := range append(notPlaces(), math.MinInt64+1, 1<<61, -1<<61, 1<<62, 1<<32+1) {
		list = append(list, slope(n, 1, 1), slope(n, 3, 3), slope(n, 8, 8), slope(1, n, 1), slope(1, n, 8), slope(1, n, n), slope(0, n, 8), slope(1, 1, n), slope(1, 2, n), slope(n, n, n), slope(n, n, 1))
	}
	for _, n := range []int64{0, -1, -2, -8, impl.MaxDegree + 1, impl.MaxDegree + 2, 16, 24, 64, -64} {
		list = append(list, slope(1, n, 1), slope(1, n, 8), slope(1, n, n), slope(0, n, n), slope(1, 1, n), slope(0, 1, n), slope(-3, 2, n), slope(60, 1, n))
	}
	return list
}

// TestErrorsOfJoinSlopes puts slopes that are none into each place of valid lists, and exchanges or repeats
// elements.
func TestErrorsOfJoinSlopes(t *testing.T) {
	check := func(a, b []impl.Slope) {
		t.Helper()
		for _, pair := range [][2][]impl.Slope{{a, b}, {b, a}, {a, a}} {
			if got, code := impl.JoinSlopes(pair[0], pair[1]); len(got) != 0 || code != impl.ErrInvalid {
				t.Fatal("JoinSlopes", pair, got, code)
			}
		}
	}
	lists := slopeLists(60)
	for i, a := range lists {
		b := lists[(i*7+3)%len(lists)]
		for _, wrong := range notSlopes() {
			for place := range len(a) + 1 {
				check(slices.Insert(slices.Clone(a), place, wrong), b)
			}
		}
		for place := range a {
			check(slices.Insert(slices.Clone(a), place, a[place]), b)
			longer := a[place]
			longer.Length = longer.Run * (impl.MaxDegree/longer.Run + 1)
			check(slices.Replace(slices.Clone(a), place, place+1, longer), b)
			if place > 0 {
				turned := slices.Clone(a)
				turned[place-1], turned[place] = turned[place], turned[place-1]
				check(turned, b)
			}
		}
	}
	fractions := allFractions()
	for count := impl.MaxDegree + 1; count < len(fractions); count *= 2 {
		check(fractions[:count], nil)
		check(fractions[len(fractions)-count:], lists[4])
	}
}

// polygonCall is a function of a prime and a polynomial, with other arguments that are valid or not. It
// tells whether its result beside the code is the zero value.
type polygonCall struct {
	name string
	ask  func(p int64, f []int64) (isZero bool, code int64)
}

func polygonCalls() []polygonCall {
	calls := []polygonCall{
		{"PointsOf", func(p int64, f []int64) (bool, int64) {
			got, code := impl.PointsOf(p, f)
			return len(got) == 0, code
		}},
		{"PolygonOf", func(p int64, f []int64) (bool, int64) {
			got, code := impl.PolygonOf(p, f)
			return len(got) == 0, code
		}},
		{"SlopesOf", func(p int64, f []int64) (bool, int64) {
			got, code := impl.SlopesOf(p, f)
			return len(got) == 0, code
		}},
		{"IsPure", func(p int64, f []int64) (bool, int64) {
			got, code := impl.IsPure(p, f)
			return !got, code
		}},
		{"LatticeBelow", func(p int64, f []int64) (bool, int64) {
			got, code := impl.LatticeBelow(p, f)
			return got == 0, code
		}},
	}
	for _, n := range []int64{0, 1, 8, -1, 9, math.MinInt64, math.MaxInt64} {
		calls = append(calls, polygonCall{fmt.Sprint("HeightOf ", n), func(p int64, f []int64) (bool, int64) {
			got, code := impl.HeightOf(p, f, n)
			return got == impl.Rational{}, code
		}})
		calls = append(calls, polygonCall{fmt.Sprint("CountWithSlope ", n), func(p int64, f []int64) (bool, int64) {
			got, code := impl.CountWithSlope(p, f, -n, n)
			other, two := impl.CountWithSlope(p, f, n, 1)
			return got == 0 && other == 0 && code == two, code
		}})
	}
	return calls
}

// TestErrorsOfPolygons gives numbers that are no primes, lists that are no polynomials, and 0, beside other
// arguments that are valid or not.
func TestErrorsOfPolygons(t *testing.T) {
	check := func(p int64, f []int64, want int64) {
		t.Helper()
		for _, c := range polygonCalls() {
			if isZero, code := c.ask(p, f); !isZero || code != want {
				t.Fatal(c.name, p, f, isZero, code, want)
			}
		}
	}
	for _, p := range notPrimes() {
		for _, f := range append(invalidPolynomials(), nil, []int64{}, []int64{1}, []int64{4, 2, 1}, []int64{0, 97}, repeated(1, 9)) {
			check(p, f, impl.ErrInvalid)
		}
	}
	for _, p := range basePrimes() {
		for _, f := range invalidPolynomials() {
			check(p, f, impl.ErrInvalid)
		}
		check(p, nil, impl.ErrState)
		check(p, []int64{}, impl.ErrState)
		check(p, make([]int64, 0, 9), impl.ErrState)
	}
}

// spoil changes all elements of a result and of its spare capacity.
func spoil[T any](result []T, element T) {
	for i := range result[:cap(result)] {
		result[:cap(result)][i] = element
	}
}

// TestPolygonsShareNoMemory overwrites results and asks again.
func TestPolygonsShareNoMemory(t *testing.T) {
	for _, f := range [][]int64{{1}, {0, 4}, {4, 1}, {4, 2, 1}, {8, 2, 0, 6, 1}, {0, 0, 9, 1, 0, 2}, {256, 128, 64, 64, 64, 1}, repeated(1, 9), {128, 64, 32, 16, 8, 4, 2, 1, 1}} {
		argument, whole := spare(f)
		before := slices.Clone(whole)
		points, _ := impl.PointsOf(2, argument)
		corners, _ := impl.PolygonOf(2, argument)
		slopes, _ := impl.SlopesOf(2, argument)
		height, _ := impl.HeightOf(2, argument, int64(len(f)-1))
		lattice, _ := impl.LatticeBelow(2, argument)
		firstPoints, firstCorners, firstSlopes := slices.Clone(points), slices.Clone(corners), slices.Clone(slopes)
		spoil(points, corner(99, 99))
		if !slices.Equal(corners, firstCorners) || !slices.Equal(slopes, firstSlopes) {
			t.Fatal("results share memory", f, points, corners, slopes)
		}
		spoil(corners, corner(99, 99))
		spoil(slopes, slope(99, 99, 99))
		impl.IsPure(2, argument)
		impl.CountWithSlope(2, argument, -1, 1)
		points, _ = impl.PointsOf(2, argument)
		corners, _ = impl.PolygonOf(2, argument)
		slopes, _ = impl.SlopesOf(2, argument)
		again, _ := impl.HeightOf(2, argument, int64(len(f)-1))
		count, _ := impl.LatticeBelow(2, argument)
		if !slices.Equal(points, firstPoints) || !slices.Equal(corners, firstCorners) || !slices.Equal(slopes, firstSlopes) || again != height || count != lattice {
			t.Fatal("another answer", f, points, corners, slopes, again, count)
		}
		if !slices.Equal(whole, before) {
			t.Fatal("an argument was changed", f, whole, before)
		}
	}
}

// TestJoinedSlopesShareNoMemory joins lists with spare capacity and parts of one list.
func TestJoinedSlopesShareNoMemory(t *testing.T) {
	filler := slices.Repeat([]impl.Slope{slope(77, 77, 77)}, 20)
	lists := slopeLists(20)
	for i, list := range lists {
		other := lists[(i*5+2)%len(lists)]
		wholeA, wholeB := slices.Concat(list, filler), slices.Concat(other, filler)
		a, b := wholeA[:len(list)], wholeB[:len(other)]
		want := exactJoined(list, other)
		for _, pair := range [][2][]impl.Slope{{a, b}, {b, a}, {a, nil}, {nil, a}, {a, a}, {a[:len(a)/2], a[len(a)/2:]}} {
			joined, _ := impl.JoinSlopes(pair[0], pair[1])
			spoil(joined, slope(99, 99, 99))
			if again, _ := impl.JoinSlopes(pair[0], pair[1]); !slices.Equal(again, exactJoined(pair[0], pair[1])) {
				t.Fatal("another answer", pair, again)
			}
			if !slices.Equal(wholeA, slices.Concat(list, filler)) || !slices.Equal(wholeB, slices.Concat(other, filler)) {
				t.Fatal("an argument was changed", pair, wholeA, wholeB)
			}
		}
		if got, code := impl.JoinSlopes(a, b); !slices.Equal(got, want) || code != impl.ErrNone {
			t.Fatal("JoinSlopes", a, b, got, code, want)
		}
	}
}

// polygonsOf gives what functions of chapter 13 return for some polynomials, as a text.
func polygonsOf(p int64, list [][]int64) string {
	text := ""
	for _, f := range list {
		points, code := impl.PointsOf(p, f)
		corners, two := impl.PolygonOf(p, f)
		slopes, three := impl.SlopesOf(p, f)
		isPure, four := impl.IsPure(p, f)
		height, five := impl.HeightOf(p, f, 2)
		length, six := impl.CountWithSlope(p, f, -1, 2)
		joined, seven := impl.JoinSlopes(slopes, slopes)
		lattice, eight := impl.LatticeBelow(p, f)
		text += fmt.Sprintln(points, corners, slopes, isPure, height, length, joined, lattice, code, two, three, four, five, six, seven, eight)
	}
	return text
}

// TestPolygonsDependOnArgumentsOnly asks for some primes forwards, backwards, and at the same time.
func TestPolygonsDependOnArgumentsOnly(t *testing.T) {
	primes := []int64{2, 3, 31, 97, 98}
	list := append(steepPolynomials(2, 6), nil, []int64{0}, repeated(1, 10))
	want := map[int64]string{}
	for _, p := range primes {
		want[p] = polygonsOf(p, list)
	}
	for _, p := range slices.Backward(primes) {
		if polygonsOf(p, list) != want[p] {
			t.Fatal("polygons of a second time", p)
		}
	}
	var work sync.WaitGroup
	for range 8 {
		work.Go(func() {
			for _, p := range primes {
				if polygonsOf(p, list) != want[p] {
					t.Error("polygons at the same time", p)
				}
			}
		})
	}
	work.Wait()
}
