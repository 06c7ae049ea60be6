package tests

import (
	"math"
	"strconv"
	"strings"
	"testing"

	"loop.example/g01318/impl"
)

func TestLimitsOfChapter5(t *testing.T) {
	if impl.MaxSheet != 17 || impl.MaxLine != 64 || impl.MaxDrops != 128 {
		t.Error("a limit of chapter 5 is not as told")
	}
}

// numbers reads numbers from their bits, without the program.
func numbers(text string) []float32 {
	var list []float32
	for _, bits := range strings.Fields(text) {
		n, err := strconv.ParseUint(bits, 16, 32)
		if err != nil {
			panic(err)
		}
		list = append(list, number(uint32(n)))
	}
	return list
}

// heights returns a sheet so many places wide.
func heights(wide int64, list ...float32) impl.Sheet {
	return impl.Sheet{Wide: wide, High: int64(len(list)) / wide, Heights: list}
}

// sheet reads a sheet from the bits of its heights, with / between its rows.
func sheet(text string) impl.Sheet {
	first, _, _ := strings.Cut(text, "/")
	return heights(int64(len(numbers(first))), numbers(strings.ReplaceAll(text, "/", " "))...)
}

// pictured returns a sheet with 2 for each # of a picture, and 0 for other letters.
func pictured(rows ...string) impl.Sheet {
	list := make([]float32, 0, 289)
	for _, c := range strings.Join(rows, "") {
		list = append(list, 2*float32(strings.Count("#", string(c))))
	}
	return heights(int64(len(rows[0])), list...)
}

// flat returns a sheet of one height.
func flat(wide, high int64, height float32) impl.Sheet {
	return heights(wide, repeated(height, int(wide*high))...)
}

// hills is a sheet of the greatest size.
func hills() impl.Sheet {
	s, _, ok := impl.DiamondSheet(4, []float32{1, -2, 0.5, 3}, 2, 0.7, 3)
	if !ok || digest(s.Heights) != 0x0a94739c {
		panic("the hills are not as they were")
	}
	return s
}

// digest makes one number of the bits of many.
func digest(list []float32) uint32 {
	var d uint32
	for _, x := range list {
		d = d*31 + told(x)
	}
	return d
}

func wantNumbers(t *testing.T, what string, got []float32, ok bool, want []float32) {
	t.Helper()
	if !ok || len(got) != len(want) {
		t.Errorf("%s: got %v, %v, want %v", what, got, ok, want)
		return
	}
	for i := range got {
		wantNumber(t, what, got[i], want[i])
	}
}

func wantSheet(t *testing.T, what string, got impl.Sheet, ok bool, want impl.Sheet) {
	t.Helper()
	if got.Wide != want.Wide || got.High != want.High {
		t.Errorf("%s: got %d times %d places, want %d times %d", what, got.Wide, got.High, want.Wide, want.High)
	}
	wantNumbers(t, what, got.Heights, ok, want.Heights)
}

func wantNoSheet(t *testing.T, what string, got impl.Sheet, ok bool) {
	t.Helper()
	if ok || got.Wide != 0 || got.High != 0 || len(got.Heights) != 0 {
		t.Errorf("%s: got %v, %v, want a failure without a sheet", what, got, ok)
	}
}

func validSheets() []impl.Sheet {
	return []impl.Sheet{
		heights(1, 5), heights(1, minusZero), heights(2, mostNumber, -mostNumber), heights(1, leastNumber, 0, minusZero),
		heights(3, 1, 2, 3, -4, 5.5, 6), flat(17, 17, 1), flat(17, 1, -1), flat(1, 17, 0), hills(),
	}
}

// wrongSheets are sheets with sides or heights that are not valid.
func wrongSheets() []impl.Sheet {
	list := []impl.Sheet{
		{}, {Wide: 1, High: 1}, {Wide: 1, High: 1, Heights: []float32{1, 2}}, {Wide: 2, High: 2, Heights: []float32{1, 2, 3}},
		{Wide: 2, High: 1, Heights: []float32{1, 2, 3}}, {Wide: 0, High: 1}, {Wide: 1, High: 0}, {Wide: 0, High: 0, Heights: []float32{1}},
		{Wide: -1, High: -1, Heights: []float32{1}}, {Wide: -2, High: -2, Heights: make([]float32, 4)},
		{Wide: 1 << 32, High: 1 << 32}, {Wide: math.MaxInt64, High: math.MaxInt64, Heights: []float32{1}},
		{Wide: math.MinInt64, High: math.MinInt64}, {Wide: math.MinInt64, High: 2},
		flat(18, 1, 1), flat(1, 18, 1), flat(18, 17, 1), flat(17, 18, 1),
	}
	for _, x := range endlessNumbers() {
		list = append(list, heights(1, x), heights(3, x, 1, 2), heights(3, 0, 1, 2, 3, 4, x))
	}
	return list
}

func TestValidSheet(t *testing.T) {
	for _, s := range validSheets() {
		if !impl.ValidSheet(s) {
			t.Errorf("ValidSheet %v is false", s)
		}
	}
	for _, s := range wrongSheets() {
		if impl.ValidSheet(s) {
			t.Errorf("ValidSheet %v is true", s)
		}
	}
	for wide := int64(1); wide <= 18; wide++ {
		for high := int64(1); high <= 18; high++ {
			wantBool(t, "ValidSheet of all sides", impl.ValidSheet(flat(wide, high, 1)), wide < 18 && high < 18)
		}
	}
}

func TestSameSheet(t *testing.T) {
	rows := []struct {
		a, b impl.Sheet
		want bool
	}{
		{heights(2, 1, 2), heights(2, 1, 2), true},
		{heights(2, 1, 2), heights(1, 1, 2), false},
		{heights(2, 1, 2), heights(2, 1, 3), false},
		{heights(2, 1, 2), heights(2, 3, 2), false},
		{heights(2, 1, 0), heights(2, 1, minusZero), false},
		{heights(1, minusZero), heights(1, minusZero), true},
		// Sheets that are not valid can be the same.
		{impl.Sheet{}, impl.Sheet{}, true},
		{impl.Sheet{}, impl.Sheet{Heights: []float32{}}, true},
		{impl.Sheet{Wide: -7}, impl.Sheet{Wide: -7}, true},
		{impl.Sheet{Wide: -7}, impl.Sheet{High: -7}, false},
		{impl.Sheet{High: 5}, impl.Sheet{High: 6}, false},
		{impl.Sheet{Wide: 5}, impl.Sheet{Wide: 6}, false},
		{impl.Sheet{Heights: []float32{1}}, impl.Sheet{}, false},
		{impl.Sheet{Heights: []float32{1}}, impl.Sheet{Heights: []float32{1, 2}}, false},
		{impl.Sheet{Heights: []float32{nan, inf}}, impl.Sheet{Heights: []float32{otherNaN, inf}}, true},
		{impl.Sheet{Heights: []float32{inf}}, impl.Sheet{Heights: []float32{minusInf}}, false},
	}
	for _, r := range rows {
		if impl.SameSheet(r.a, r.b) != r.want || impl.SameSheet(r.b, r.a) != r.want {
			t.Errorf("SameSheet %v and %v is not %v", r.a, r.b, r.want)
		}
	}
	for i, a := range validSheets() {
		for k, b := range validSheets() {
			wantBool(t, "SameSheet of two valid sheets", impl.SameSheet(a, b), i == k)
		}
	}
}

func TestFlatSheet(t *testing.T) {
	for _, height := range []float32{3, 0, minusZero, leastNumber, -mostNumber} {
		for _, sides := range [][2]int64{{1, 1}, {2, 2}, {1, 17}, {17, 1}, {5, 3}, {17, 17}} {
			got, ok := impl.FlatSheet(sides[0], sides[1], height)
			wantSheet(t, "FlatSheet", got, ok, flat(sides[0], sides[1], height))
		}
	}
	for _, height := range endlessNumbers() {
		got, ok := impl.FlatSheet(2, 2, height)
		wantNoSheet(t, "FlatSheet of a height that is not finite", got, ok)
	}
	for _, side := range []int64{0, -1, 18, 1 << 32, math.MaxInt64, math.MinInt64} {
		for _, other := range []int64{1, 17, side} {
			got, ok := impl.FlatSheet(side, other, 1)
			wantNoSheet(t, "FlatSheet with a wrong Wide", got, ok)
			got, ok = impl.FlatSheet(other, side, 1)
			wantNoSheet(t, "FlatSheet with a wrong High", got, ok)
		}
	}
}

func TestDiamondSheet(t *testing.T) {
	four := zeros + " " + zeros + " " + zeros + " " + zeros
	rows := []struct {
		power       int64
		corners     string
		rough, fade float32
		seed        int64
		want        string
		last        int64
	}{
		{1, "00000000 40000000 40800000 40c00000", 0, 1, 0, "00000000 3fd55555 40000000 / 40155555 40400000 406aaaab / 40800000 408aaaab 40c00000", 229283573},
		// A rough without a height still draws, and signs of zeros stay at corners only.
		{1, "80000000 80000000 80000000 80000000", minusZero, 0, 2088216195, "80000000 00000000 80000000 / 00000000 00000000 00000000 / 80000000 00000000 80000000", 1449466924},
		// The first number that is drawn with this seed is -1, and is for the middle.
		{1, four, 1, 1, drawsNothing, "00000000 bfaaaaab 00000000 / bcbcaab0 bf800000 bf394556 / 00000000 3c87d550 00000000", 1449466924},
		{1, "c01d4f3b 402d0b15 c006693f 3fb7d621", number(0x3f575ba9), number(0x3f3f445e), 1296812118, "c01d4f3b bf089f44 402d0b15 / bfb6b587 3c3af158 3fa1b240 / c006693f be9d738f 3fb7d621", 958890867},
		{1, "c01e032f 401fbcb3 40222d0c 400cbf20", number(0x3ef1a50d), number(0x3ec54b3f), 1742638964, "c01e032f 3f7f5432 401fbcb3 / 3e5eaa5c 3fc6c0be 401195dc / 40222d0c 3fe85396 400cbf20", 436168089},
		{2, "3f800000 40000000 40800000 41000000", 0, 0.5, 7, "3f800000 3ff471c8 40100000 401dc71d 40000000 / 400871c7 401eaaab 403a0000 40495556 404f8e39 / 403aaaab 40520001 40700000 40870000 4092aaab / 406871c8 407eaaab 40930000 40acaaab 40bfc71d / 40800000 408d1c72 40a80000 40c6e38f 41000000", 16540112},
		{2, four, 1, 0, 0, "00000000 be1ceaab bcbcaab0 bdbb7d57 00000000 / bec60aab bedf9556 bedb0cd6 be80d356 bda072ac / bf394556 bf37c32b bf800000 bee16356 3c87d550 / bef4d6ab bf35fcab bf56d16c bf069bab be2dd155 / 00000000 bf1c38ab bf8f56ab bf0c6dab 00000000", 1343235941},
		{2, "bf8b9845 402db453 403bf911 3fd1a375", number(0x3d2629dd), number(0x3e83b5cd), 990469286, "bf8b9845 3e4c7ddd 3f84937e 3feda1ca 402db453 / 3e5a04b0 3f26c668 3fa2d154 3fe8f3d0 400b634a / 3f8c295b 3fa75b4c 3fc74a8b 3fe60938 3fff442b / 3ffc7dfd 3ff52fb0 3feb0a55 3fe93dfa 3fe78071 / 403bf911 4013e8dc 400468b2 3feb57cf 3fd1a375", 626453107},
	}
	for _, r := range rows {
		got, seed, ok := impl.DiamondSheet(r.power, numbers(r.corners), r.rough, r.fade, r.seed)
		wantSheet(t, "DiamondSheet "+r.corners, got, ok, sheet(r.want))
		wantInteger(t, "the seed of DiamondSheet "+r.corners, seed, ok, r.last)
	}
}

func TestDiamondSheetOfAllSides(t *testing.T) {
	rows := []struct {
		want uint32
		last int64
	}{{0xc58e2036, 1109335178}, {0x25eae9c5, 1877954831}, {0xfd67a978, 2002424332}, {0x202567a7, 1734106865}}
	for i, r := range rows {
		power := int64(i) + 1
		got, seed, ok := impl.DiamondSheet(power, []float32{1, -2, 0.5, 3}, 0.75, 0.6, 12345*power)
		wantInteger(t, "the seed of DiamondSheet", seed, ok, r.last)
		n := int64(1)<<power + 1
		if got.Wide != n || got.High != n || digest(got.Heights) != r.want {
			t.Errorf("DiamondSheet with the power %d is %v", power, got)
		}
	}
}

// TestDiamondSheetKeepsCorners holds that corners stay, and that without a rough nothing is beyond them.
func TestDiamondSheetKeepsCorners(t *testing.T) {
	corners := []float32{2, minusZero, -3, 4.5}
	for power := int64(1); power <= 4; power++ {
		for _, rough := range []float32{0, 0.5, 100} {
			s, _, ok := impl.DiamondSheet(power, corners, rough, 0.5, 9)
			if !ok {
				t.Fatalf("DiamondSheet with the power %d fails", power)
			}
			last := s.Wide - 1
			for i, place := range []int64{0, last, last * s.Wide, last*s.Wide + last} {
				wantNumber(t, "a corner", s.Heights[place], corners[i])
			}
			least, greatest, ok := impl.RangeOfSheet(s)
			if !ok || rough == 0 && (least != -3 || greatest != 4.5) {
				t.Errorf("a DiamondSheet without a rough is from %v to %v", least, greatest)
			}
		}
	}
}

func TestDiamondSheetFails(t *testing.T) {
	fails := func(what string, power int64, corners []float32, rough, fade float32, seed int64) {
		t.Helper()
		got, last, ok := impl.DiamondSheet(power, corners, rough, fade, seed)
		wantNoSheet(t, "DiamondSheet "+what, got, ok)
		wantNone(t, "DiamondSheet "+what, last, ok)
	}
	four := []float32{1, 2, 3, 4}
	for _, power := range []int64{0, -1, 5, 62, 63, 64, math.MaxInt64, math.MinInt64} {
		fails("with a wrong power", power, four, 0.5, 0.5, 1)
	}
	for _, corners := range [][]float32{nil, {}, {1}, {1, 2, 3}, {1, 2, 3, 4, 5}} {
		fails("with too few or too many corners", 1, corners, 0.5, 0.5, 1)
	}
	for _, x := range endlessNumbers() {
		for i := range 4 {
			corners := []float32{1, 2, 3, 4}
			corners[i] = x
			fails("with a corner that is not finite", 1, corners, 0, 0.5, 1)
		}
		fails("with a wrong rough", 1, four, x, 0.5, 1)
		fails("with a wrong fade", 1, four, 0.5, x, 1)
	}
	for _, x := range []float32{-leastNumber, -1, -mostNumber} {
		fails("with a wrong rough", 1, four, x, 0.5, 1)
		fails("with a wrong fade", 1, four, 0.5, x, 1)
	}
	for _, x := range []float32{afterOne, 2, mostNumber} {
		fails("with a wrong fade", 1, four, 0.5, x, 1)
	}
	for _, seed := range wrongSeeds() {
		fails("with a wrong seed", 1, four, 0.5, 0.5, seed)
	}
	fails("with a sum that is not finite", 1, []float32{mostNumber, mostNumber, mostNumber, mostNumber}, 0, 0.5, 1)
	fails("to the end of numbers", 1, []float32{-mostNumber, 0, 0, 0}, mostNumber, 0.5, drawsNothing)
	got, _, ok := impl.DiamondSheet(1, []float32{mostNumber, -mostNumber, -mostNumber, mostNumber}, 0, 1, 1)
	wantSheet(t, "DiamondSheet of the greatest numbers", got, ok, heights(3, mostNumber, 0, -mostNumber, 0, 0, 0, -mostNumber, 0, mostNumber))
}

func TestWeighSheets(t *testing.T) {
	rows := []struct {
		a, b string
		x, y float32
		want string
	}{
		{"3f800000 40000000", "40400000 40800000", 2, 1, "40a00000 41000000"},
		{"3f800000 / 40000000", "40400000 / 40800000", 0, -1, "c0400000 / c0800000"},
		{end + " " + lowEnd, end + " " + lowEnd, 0.5, 0.5, end + " " + lowEnd},
		// Both products are rounded before they are added: here, the rest of a square is lost.
		{"3f800001", "3f800002", number(0x3f800001), -1, "00000000"},
		{"3f800002", "3f800001", 1, -afterOne, "00000000"},
		{"00000001", "00000001", 0.5, 0.5, "00000000"},
		{"bf9843af c00e020d / 3f97f9fa bf026295", "be3a4837 3f1db6e8 / c016ecfb 3ff402e9", number(0x401613f1), number(0xbfbcb0f3), "c0215d51 c0c3905c / 40c856aa c080255c"},
		{"3ff2b827 3f98b5db / bf9af182 bfb0c236", "c01fc76e bf03dcef / be95ef0c bda1bf1a", number(0xbde2f44a), number(0x3e957d2d), "bf7065f3 be90b134 / 3d473e78 3e05174c"},
		{"c0101477 bfd3867f / 3eb5b29e be299d5c", "bffa122b bfab6c8d / 4037fa42 3fe5a488", number(0x3fae472f), number(0xbf5e47ee), "bfaf35df bf8b2829 / c000d23c bfe4433c"},
	}
	for _, r := range rows {
		got, ok := impl.WeighSheets(sheet(r.a), sheet(r.b), r.x, r.y)
		wantSheet(t, "WeighSheets "+r.a, got, ok, sheet(r.want))
	}
	for _, s := range validSheets() {
		got, ok := impl.WeighSheets(s, s, 3, -2)
		for i, height := range s.Heights {
			s.Heights[i] = float32(3*height) - float32(2*height)
		}
		if impl.ValidSheet(s) {
			wantSheet(t, "WeighSheets of a sheet and itself", got, ok, s)
		} else {
			wantNoSheet(t, "WeighSheets of heights that are too great", got, ok)
		}
	}
}

func TestWeighSheetsFails(t *testing.T) {
	fails := func(what string, a, b impl.Sheet, x, y float32) {
		t.Helper()
		got, ok := impl.WeighSheets(a, b, x, y)
		wantNoSheet(t, "WeighSheets "+what, got, ok)
	}
	for _, s := range wrongSheets() {
		fails("of a wrong sheet", s, s, 1, 1)
		fails("of a wrong sheet", s, heights(1, 1), 1, 1)
		fails("of a wrong sheet", heights(1, 1), s, 1, 1)
	}
	for _, x := range endlessNumbers() {
		fails("with a weight that is not finite", heights(1, 0), heights(1, 0), x, 1)
		fails("with a weight that is not finite", heights(1, 0), heights(1, 0), 1, x)
	}
	fails("with other sides", heights(2, 1, 2), heights(1, 1, 2), 1, 1)
	fails("with other sides", flat(2, 3, 1), flat(3, 2, 1), 1, 1)
	fails("with more rows", flat(2, 2, 1), flat(2, 3, 1), 1, 1)
	fails("with longer rows", flat(2, 2, 1), flat(3, 2, 1), 1, 1)
	fails("with a product that is not finite", heights(1, mostNumber), heights(1, 0), 2, 0)
	fails("with a product that is not finite", heights(1, mostNumber), heights(1, mostNumber), 2, -2)
	fails("with a sum that is not finite", heights(1, mostNumber), heights(1, mostNumber), 1, 1)
}

func TestNormSheet(t *testing.T) {
	rows := []struct{ s, want string }{
		{"3f800000 40400000 40000000", "00000000 3f800000 3f000000"},
		{"40400000 / bf800000 / 3f800000", "3f800000 / 00000000 / 3f000000"},
		// The least numbers still have differences.
		{"00000001 00000003 00000002", "00000000 3f800000 3f000000"},
		{"80000001 00000001", "00000000 3f800000"},
		{end + " 00000000 7effffff", "3f800000 00000000 3f000000"},
		// The first one of equal least heights: zeros with and without a sign.
		{minuses + " " + zeros + " " + ones, zeros + " " + zeros + " " + ones},
		{zeros + " " + minuses + " " + ones, zeros + " " + minuses + " " + ones},
		{"bf87f85d bf615ac0 / 401a3f21 c03e81c7", "3eb5f5a4 3ec74183 / 3f800000 00000000"},
		{"3fa3426c bfe65cf5 / bf848287 3e3d5c8f", "3f800000 00000000 / 3e7e901d 3f253728"},
		{"bf110995 / 3f607146 / bfdfca41 / 4028c4f4", "3e89fa53 / 3f193dd7 / 00000000 / 3f800000"},
	}
	for _, r := range rows {
		got, ok := impl.NormSheet(sheet(r.s))
		wantSheet(t, "NormSheet "+r.s, got, ok, sheet(r.want))
	}
	got, ok := impl.NormSheet(hills())
	least, greatest, inRange := impl.RangeOfSheet(got)
	if !ok || !inRange || least != 0 || greatest != 1 {
		t.Errorf("NormSheet of hills is from %v to %v, %v", least, greatest, ok)
	}
	for _, s := range append(wrongSheets(), heights(1, 5), flat(17, 17, -2), heights(2, minusZero, 0), heights(2, mostNumber, -mostNumber)) {
		got, ok := impl.NormSheet(s)
		wantNoSheet(t, "NormSheet of such a sheet", got, ok)
	}
}

func TestRangeOfSheet(t *testing.T) {
	rows := []struct {
		s               impl.Sheet
		least, greatest float32
	}{
		{heights(3, 1, 3, 2), 1, 3},
		{heights(1, 3, -1, 2), -1, 3},
		{heights(1, minusZero), minusZero, minusZero},
		{heights(2, minusZero, 0), minusZero, minusZero},
		{heights(2, 0, minusZero), 0, 0},
		{heights(4, -1, 0, minusZero, -1), -1, 0},
		{heights(4, 1, minusZero, 0, 1), minusZero, 1},
		{heights(2, mostNumber, -mostNumber), -mostNumber, mostNumber},
		{heights(3, leastNumber, -leastNumber, 0), -leastNumber, leastNumber},
		{hills(), number(0xc025fc78), 3},
	}
	for _, r := range rows {
		least, greatest, ok := impl.RangeOfSheet(r.s)
		wantSum(t, "the least of RangeOfSheet", least, ok, r.least)
		wantSum(t, "the greatest of RangeOfSheet", greatest, ok, r.greatest)
	}
	for _, s := range wrongSheets() {
		least, greatest, ok := impl.RangeOfSheet(s)
		wantNone(t, "the least of no sheet", least, ok)
		wantNone(t, "the greatest of no sheet", greatest, ok)
	}
}
