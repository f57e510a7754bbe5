package tests

import (
	"math"
	"reflect"
	"slices"
	"testing"

	"loop.example/g01132/impl"
)

// dihedralRows has the values of the characters of the dihedral group with 2 n elements, in the order
// of the labels: at the n rotations, at the reflection before all others, and at the one behind it.
// With even n there are n / 2 reflections like either of them, and with odd n all are alike.
func dihedralRows(n int) [][]float64 {
	rows := [][]float64{}
	add := func(h int, scale, reflection, next float64) {
		row := []float64{}
		for m := range n {
			row = append(row, scale*math.Cos(2*math.Pi*float64(h*m)/float64(n)))
		}
		rows = append(rows, append(row, reflection, next))
	}
	add(0, 1, 1, 1)
	add(0, 1, -1, -1)
	if n%2 == 0 {
		add(n/2, 1, 1, -1)
		add(n/2, 1, -1, 1)
	}
	for h := 1; 2*h < n; h++ {
		add(h, 2, 0, 0)
	}
	return rows
}

// dihedralCube makes the ring of the characters of the dihedral group with 2 n elements from their
// values: how often one is in the product of two is the mean of the products of all three.
func dihedralCube(n int) impl.Ring {
	rows := dihedralRows(n)
	return cubeOf(len(rows), func(i, j, k int) int64 {
		sum := 0.0
		for place := range rows[0] {
			product := rows[i][place] * rows[j][place] * rows[k][place]
			if place >= n {
				product *= float64(n) / 2
			}
			sum += product
		}
		return int64(math.Round(sum / float64(2*n)))
	})
}

// dihedralDimensions has the values at the identity: 1 before V(1), and 2 from there on.
func dihedralDimensions(n int64) []int64 {
	if n%2 == 0 {
		return append(repeated(1, 4), repeated(2, int(n/2-1))...)
	}
	return append(repeated(1, 2), repeated(2, int((n-1)/2))...)
}

func TestDihedralRing(t *testing.T) {
	for n := int64(1); n <= 18; n++ {
		got, code := impl.DihedralRing(n)
		checkRing(t, call("DihedralRing", n), got, code, dihedralCube(int(n)), impl.ErrNone)
		commutative, _ := impl.IsCommutativeRing(got)
		selfDual, _ := impl.IsSelfDual(got)
		if !impl.IsRing(got) || !commutative || !selfDual {
			t.Errorf("%s is a ring: %v, commutative: %v, self-dual: %v", call("DihedralRing", n), impl.IsRing(got), commutative, selfDual)
		}
	}
}

func TestTextsOfDihedralRings(t *testing.T) {
	for n, want := range []string{
		1: "1 0 0 1/0 1 1 0",
		2: "1 0 0 0 0 1 0 0 0 0 1 0 0 0 0 1/0 1 0 0 1 0 0 0 0 0 0 1 0 0 1 0/" +
			"0 0 1 0 0 0 0 1 1 0 0 0 0 1 0 0/0 0 0 1 0 0 1 0 0 1 0 0 1 0 0 0",
		3: "1 0 0 0 1 0 0 0 1/0 1 0 1 0 0 0 0 1/0 0 1 0 0 1 1 1 1",
		4: "1 0 0 0 0 0 1 0 0 0 0 0 1 0 0 0 0 0 1 0 0 0 0 0 1/" +
			"0 1 0 0 0 1 0 0 0 0 0 0 0 1 0 0 0 1 0 0 0 0 0 0 1/" +
			"0 0 1 0 0 0 0 0 1 0 1 0 0 0 0 0 1 0 0 0 0 0 0 0 1/" +
			"0 0 0 1 0 0 0 1 0 0 0 1 0 0 0 1 0 0 0 0 0 0 0 0 1/" +
			"0 0 0 0 1 0 0 0 0 1 0 0 0 0 1 0 0 0 0 1 1 1 1 1 0",
		5: "1 0 0 0 0 1 0 0 0 0 1 0 0 0 0 1/0 1 0 0 1 0 0 0 0 0 1 0 0 0 0 1/" +
			"0 0 1 0 0 0 1 0 1 1 0 1 0 0 1 1/0 0 0 1 0 0 0 1 0 0 1 1 1 1 1 0",
		6: "1 0 0 0 0 0 0 1 0 0 0 0 0 0 1 0 0 0 0 0 0 1 0 0 0 0 0 0 1 0 0 0 0 0 0 1/" +
			"0 1 0 0 0 0 1 0 0 0 0 0 0 0 0 1 0 0 0 0 1 0 0 0 0 0 0 0 1 0 0 0 0 0 0 1/" +
			"0 0 1 0 0 0 0 0 0 1 0 0 1 0 0 0 0 0 0 1 0 0 0 0 0 0 0 0 0 1 0 0 0 0 1 0/" +
			"0 0 0 1 0 0 0 0 1 0 0 0 0 1 0 0 0 0 1 0 0 0 0 0 0 0 0 0 0 1 0 0 0 0 1 0/" +
			"0 0 0 0 1 0 0 0 0 0 1 0 0 0 0 0 0 1 0 0 0 0 0 1 1 1 0 0 0 1 0 0 1 1 1 0/" +
			"0 0 0 0 0 1 0 0 0 0 0 1 0 0 0 0 1 0 0 0 0 0 1 0 0 0 1 1 1 0 1 1 0 0 0 1",
	} {
		if n == 0 {
			continue
		}
		ring, code := impl.DihedralRing(int64(n))
		if code != impl.ErrNone || textOf(ring) != want {
			t.Errorf("%s has the text %s, %d, want %s", call("DihedralRing", int64(n)), textOf(ring), code, want)
		}
	}
}

func TestGreatestDihedralRings(t *testing.T) {
	for _, test := range []struct {
		n, i, j int64
		want    []int64
	}{
		// V(1) is the label 2, and V(8), the last one, times V(8) is V(16), which is V(1), and V(0).
		{17, 9, 9, []int64{1, 1, 1, 0, 0, 0, 0, 0, 0, 0}},
		{17, 9, 2, []int64{0, 0, 0, 0, 0, 0, 0, 0, 1, 1}},
		{17, 1, 9, []int64{0, 0, 0, 0, 0, 0, 0, 0, 0, 1}},
		// V(1) is the label 4, and V(8), the last one, times V(1) is V(9), which is 2 and 3, and V(7).
		{18, 11, 4, []int64{0, 0, 1, 1, 0, 0, 0, 0, 0, 0, 1, 0}},
		{18, 11, 11, []int64{1, 1, 0, 0, 0, 1, 0, 0, 0, 0, 0, 0}},
		{18, 2, 11, []int64{0, 0, 0, 0, 1, 0, 0, 0, 0, 0, 0, 0}},
		{18, 5, 3, []int64{0, 0, 0, 0, 0, 0, 0, 0, 0, 0, 1, 0}},
		{18, 2, 3, []int64{0, 1, 0, 0, 0, 0, 0, 0, 0, 0, 0, 0}},
	} {
		ring, _ := impl.DihedralRing(test.n)
		n := int64(len(ring.Table))
		if n != int64(len(test.want)) {
			t.Errorf("%s has %d labels", call("DihedralRing", test.n), n)
			continue
		}
		if got := ring.Table[test.i][test.j]; !slices.Equal(got, test.want) {
			t.Errorf("in %s the product of %d and %d is %v, want %v", call("DihedralRing", test.n), test.i, test.j, got, test.want)
		}
	}
}

func TestDihedralRingErrors(t *testing.T) {
	for _, n := range []int64{0, -1, 19, 20, -18, math.MinInt64, math.MaxInt64} {
		ring, code := impl.DihedralRing(n)
		if ring.Table != nil || code != impl.ErrRange {
			t.Errorf("%s = %v, %d, want no table, %d", call("DihedralRing", n), ring, code, impl.ErrRange)
		}
	}
}

func TestDimensionsOfDihedralRings(t *testing.T) {
	for n := int64(1); n <= 18; n++ {
		ring, want := dihedralCube(int(n)), dihedralDimensions(n)
		if got, _ := impl.DihedralRing(n); !reflect.DeepEqual(got, ring) {
			t.Errorf("%s is another ring", call("DihedralRing", n))
			continue
		}
		dimensions, code := impl.IntegerDimensions(ring)
		checkList(t, call("IntegerDimensions of a dihedral ring", n), dimensions, code, want, impl.ErrNone)
		whole, code := impl.WholeDimension(ring)
		checkNumber(t, call("WholeDimension of a dihedral ring", n), whole, code, 2*n, impl.ErrNone)
		is, code := impl.IsDimension(ring, want)
		checkBool(t, call("IsDimension of a dihedral ring", n), is, code, true, impl.ErrNone)
		invertible, code := impl.InvertibleLabels(ring)
		checkList(t, call("InvertibleLabels of a dihedral ring", n), invertible, code, invertibleIn(ring), impl.ErrNone)
		pointed, code := impl.IsPointedRing(ring)
		checkBool(t, call("IsPointedRing of a dihedral ring", n), pointed, code, n <= 2, impl.ErrNone)
		last := int64(len(want) - 1)
		for step, weights := range wantedWeights(ring) {
			bounds, code := impl.BoundsOf(ring, last, int64(step))
			checkBounds(t, call("BoundsOf a dihedral ring", n, int64(step)), bounds, code, wantedBounds(ring, int(last), weights), impl.ErrNone)
		}
	}
}

func TestDihedralRingsAreNew(t *testing.T) {
	for _, n := range []int64{1, 2, 3, 17, 18} {
		first, _ := impl.DihedralRing(n)
		second, _ := impl.DihedralRing(n)
		overwrite(t, call("DihedralRing", n), first)
		checkRing(t, call("DihedralRing", n), second, impl.ErrNone, dihedralCube(int(n)), impl.ErrNone)
	}
}
