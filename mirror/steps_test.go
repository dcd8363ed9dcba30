package mirror_test

import (
	"math"
	"math/rand"
	"reflect"
	"testing"

	"valise/api"
	"valise/mirror"
)

// steps asks Steps for this.
func steps(t *testing.T, have []api.Info, want []api.Want, done api.Done, list ...api.Step) {
	t.Helper()
	got, count := mirror.Steps(have, want)
	if count != done || !alike(got, list) {
		t.Errorf("Steps(%v, %v) = %v, %v, want %v, %v", have, want, got, count, list, done)
	}
}

// alike tells whether two lists of steps are the same. No data and nil are.
func alike(x, y []api.Step) bool {
	if len(x) != len(y) {
		return false
	}
	for i := range x {
		a, b := x[i], y[i]
		if string(a.Data) != string(b.Data) {
			return false
		}
		a.Data, b.Data = nil, nil
		if !reflect.DeepEqual(a, b) {
			return false
		}
	}
	return true
}

// info is what an archive says of a want that it holds.
func info(w api.Want) api.Info {
	s := w.How.Stamp
	s.Second = s.Second / 2 * 2
	return api.Info{Name: w.Name, Size: len(w.Data), Packed: 7, Method: w.How.Method, Sum: plainSum(w.Data), Stamp: s, Mode: w.How.Mode, Note: w.How.Note}
}

func remove(name string) api.Step { return api.Step{Kind: api.StepDelete, Name: name} }

func put(w api.Want) api.Step {
	return api.Step{Kind: api.StepAdd, Name: w.Name, Data: w.Data, How: w.How}
}

func TestSteps(t *testing.T) { // P25.4
	a, b, c, d := wanted("a", "1"), wanted("b", ""), wanted("c", "33"), wanted("d", "4")
	c.How, d.How = packed, packed
	steps(t, nil, nil, api.Done{})
	steps(t, nil, []api.Want{b, a, c}, api.Done{Added: 3}, put(b), put(a), put(c))
	steps(t, []api.Info{info(c), info(a), info(b)}, nil, api.Done{Deleted: 3}, remove("c"), remove("a"), remove("b"))
	steps(t, []api.Info{info(c), info(a), info(b)}, []api.Want{a, b, c}, api.Done{Kept: 3})
	steps(t, []api.Info{info(c), info(a)}, []api.Want{d, a, b}, api.Done{Added: 2, Kept: 1, Deleted: 1}, remove("c"), put(d), put(b))
	other := a
	other.Data = []byte("2")
	steps(t, []api.Info{info(d), info(a), info(c)}, []api.Want{c, other, b}, api.Done{Added: 1, Replaced: 1, Kept: 1, Deleted: 1}, remove("d"), put(other), put(b))
}

func TestLastWant(t *testing.T) { // P25.4: only the last want of a name counts, at its place
	a, other, b, c := wanted("a", "1"), wanted("a", "2"), wanted("b", "b"), wanted("c", "c")
	steps(t, nil, []api.Want{a, b, other, c}, api.Done{Added: 3}, put(b), put(other), put(c))
	steps(t, nil, []api.Want{a, a, a}, api.Done{Added: 1}, put(a))
	steps(t, []api.Info{info(a)}, []api.Want{a, b, other}, api.Done{Added: 1, Replaced: 1}, put(b), put(other))
	steps(t, []api.Info{info(a)}, []api.Want{other, b, a}, api.Done{Added: 1, Kept: 1}, put(b))
	steps(t, []api.Info{info(b)}, []api.Want{other, a}, api.Done{Added: 1, Deleted: 1}, remove("b"), put(a))
}

func TestFirstInfo(t *testing.T) { // P25.4: only the first Info of a name counts
	a, other, b := wanted("a", "1"), wanted("a", "2"), wanted("b", "b")
	steps(t, []api.Info{info(a), info(b), info(other)}, []api.Want{a}, api.Done{Kept: 1, Deleted: 1}, remove("b"))
	steps(t, []api.Info{info(a), info(b), info(other)}, []api.Want{other}, api.Done{Replaced: 1, Deleted: 1}, remove("b"), put(other))
	steps(t, []api.Info{info(a), info(b), info(other), info(b), info(a)}, nil, api.Done{Deleted: 2}, remove("a"), remove("b"))
}

func TestSame(t *testing.T) { // P25.4: what makes an Info say the same, one by one
	w := api.Want{Name: "a", Data: []byte("some data"), How: packed}
	x := info(w)
	keeps := func(x api.Info, w api.Want) {
		t.Helper()
		steps(t, []api.Info{x}, []api.Want{w}, api.Done{Kept: 1})
	}
	replaces := func(x api.Info, w api.Want) {
		t.Helper()
		steps(t, []api.Info{x}, []api.Want{w}, api.Done{Replaced: 1}, put(w))
	}
	keeps(x, w)
	for _, change := range []func(*api.Info){
		func(x *api.Info) { x.Size++ }, func(x *api.Info) { x.Size-- }, func(x *api.Info) { x.Sum ^= 1 << 31 }, func(x *api.Info) { x.Sum++ },
		func(x *api.Info) { x.Method = 0 }, func(x *api.Info) { x.Method = -8 }, func(x *api.Info) { x.Mode++ }, func(x *api.Info) { x.Mode = 0 }, func(x *api.Info) { x.Note += " " }, func(x *api.Info) { x.Note = "" },
		func(x *api.Info) { x.Stamp.Year++ }, func(x *api.Info) { x.Stamp.Month-- }, func(x *api.Info) { x.Stamp.Day++ }, func(x *api.Info) { x.Stamp.Hour++ }, func(x *api.Info) { x.Stamp.Minute-- }, func(x *api.Info) { x.Stamp.Second++ }, func(x *api.Info) { x.Stamp.Second -= 2 },
		func(x *api.Info) { x.Stamp = api.Stamp{} },
	} {
		y := x
		change(&y)
		replaces(y, w)
	}
	for _, change := range []func(*api.Want){
		func(w *api.Want) { w.Data = []byte("Some data") }, func(w *api.Want) { w.Data = nil }, func(w *api.Want) { w.How.Method = 0 }, func(w *api.Want) { w.How.Mode = 65536 + 420 }, func(w *api.Want) { w.How.Note = "A note" }, func(w *api.Want) { w.How.Stamp.Second = 57 }, func(w *api.Want) { w.How.Stamp.Second = 60 },
	} {
		y := w
		change(&y)
		replaces(x, y)
	}
	for level := -1; level < 12; level++ { // nor are Level and Packed asked
		y, z := w, x
		y.How.Level, z.Packed = level, level
		keeps(z, y)
	}
	w.Data = []byte(forged("some data")) // another text of the same sum: of Infos alone it can't be told
	keeps(x, w)
}

func TestEvenSeconds(t *testing.T) { // P25.4: the How's second is made even, towards 0, the Info's is not
	for second, even := range map[int]int{0: 0, 1: 0, 2: 2, 3: 2, 58: 58, 59: 58, 60: 60, 61: 60, -1: 0, -2: -2, -3: -2, math.MaxInt: math.MaxInt - 1, math.MinInt: math.MinInt, math.MinInt + 1: math.MinInt + 2} {
		w := wanted("a", "data")
		w.How.Stamp.Second = second
		x := info(w)
		for _, of := range []int{even, even + 1, even - 1, even + 2, second} {
			x.Stamp.Second = of
			if of == even {
				steps(t, []api.Info{x}, []api.Want{w}, api.Done{Kept: 1})
			} else {
				steps(t, []api.Info{x}, []api.Want{w}, api.Done{Replaced: 1}, put(w))
			}
		}
	}
}

func TestStepsOfAnything(t *testing.T) { // P25.4: names, times and methods that no archive has
	w := api.Want{Name: "", How: api.How{Method: -5, Level: 99, Mode: -1, Note: "\x00", Stamp: api.Stamp{Year: -1, Second: -1}}}
	x := info(w)
	x.Size, x.Packed = 0, -1
	steps(t, []api.Info{x, {Name: "../x", Size: -1}}, []api.Want{w}, api.Done{Kept: 1, Deleted: 1}, remove("../x"))
	x.Size = -1
	steps(t, []api.Info{x}, []api.Want{w}, api.Done{Replaced: 1}, put(w))
	steps(t, nil, []api.Want{w}, api.Done{Added: 1}, put(w))
}

// drawWant draws one of few wants.
func drawWant(from *rand.Rand) api.Want {
	w := wanted([]string{"a", "b", "c", "d/", "d/e", "é"}[from.Intn(6)], many("data", from.Intn(3)))
	if from.Intn(3) == 0 {
		w.How = packed
	}
	w.How.Level = from.Intn(10)
	w.How.Stamp.Second = from.Intn(4)
	if from.Intn(8) == 0 {
		w.How.Note = "a note"
	}
	return w
}

func TestModelSteps(t *testing.T) { // P25.4
	from := rand.New(rand.NewSource(2506))
	var all api.Done
	for range 50000 {
		var have []api.Info
		var want []api.Want
		for range from.Intn(8) {
			w := drawWant(from)
			have = append(have, info(w))
			if from.Intn(2) == 0 {
				want = append(want, w)
			}
		}
		for range from.Intn(4) {
			want = append(want, drawWant(from))
		}
		from.Shuffle(len(want), func(i, j int) { want[i], want[j] = want[j], want[i] })
		list, done := plainSteps(have, want, func(api.Want) bool { return true })
		steps(t, have, want, done, list...)
		all.Added, all.Replaced, all.Deleted, all.Kept = all.Added+done.Added, all.Replaced+done.Replaced, all.Deleted+done.Deleted, all.Kept+done.Kept
	}
	if min(all.Added, all.Replaced, all.Deleted, all.Kept) < 20000 {
		t.Errorf("%v", all)
	}
}
