package plan_test

import (
	"math/rand"
	"strings"
	"testing"

	"valise/api"
	"valise/journal"
	"valise/plan"
)

// differs holds what Diff answers.
func differs(t *testing.T, old, next string, want ...api.Write) {
	t.Helper()
	if got := plan.Diff([]byte(old), []byte(next)); !samePlan(api.Plan{Writes: got}, api.Plan{Writes: want}) {
		t.Errorf("Diff(%.60q, %.60q) = %s, want %s", old, next, brief(api.Plan{Writes: got}), brief(api.Plan{Writes: want}))
	}
}

// plainDiff is Diff by the chapter's words: each changed place is held against the one ahead of it.
func plainDiff(old, next string) []api.Write {
	var places []int
	for i := range len(next) {
		was := byte(0)
		if i < len(old) {
			was = old[i]
		}
		if next[i] != was {
			places = append(places, i)
		}
	}
	var writes []api.Write
	for i := 0; i < len(places); {
		j := i
		for j+1 < len(places) && places[j+1]-places[j]-1 <= 8 {
			j++
		}
		writes = append(writes, api.Write{At: places[i], Data: []byte(next[places[i] : places[j]+1])})
		i = j + 1
	}
	return writes
}

func TestDiffEdges(t *testing.T) { // P15.12
	at := func(place int, data string) api.Write { return api.Write{At: place, Data: []byte(data)} }
	differs(t, "", "")
	differs(t, "abc", "")
	differs(t, "", "abc", at(0, "abc"))
	differs(t, "", zeros(40))
	differs(t, "x"+zeros(3), zeros(4), at(0, "\x00"))
	differs(t, "abc", "abc"+zeros(30))
	differs(t, "abc", "abc"+zeros(30)+"d", at(33, "d"))
	differs(t, "abc", "abX"+zeros(8)+"d", at(2, "X"+zeros(8)+"d")) // old ends between the two
	differs(t, "abc", "abX"+zeros(9)+"d", at(2, "X"), at(12, "d"))
	line := strings.Repeat("-", 30)
	differs(t, line, "a-------b--------c---------d--", at(0, "a-------b--------c"), at(27, "d")) // 7, 8 and 9 places between
	differs(t, line, "ab"+line[2:], at(0, "ab"))
	differs(t, line, line[:29]+"z", at(29, "z"))
	differs(t, line, line[:28]+"z", at(28, "z"))
}

// lessBytes holds what P15.12 says of the bytes of all writes, and that they make next of old.
func lessBytes(t *testing.T, old, next string, writes []api.Write) {
	t.Helper()
	made, e := journal.Apply([]byte(old), len(next), writes)
	if e != api.OK || string(made) != next {
		t.Errorf("Diff(%.60q, %.60q) makes %.60q, %d", old, next, made, e)
	}
	if len(writes) == 0 {
		return
	}
	sum, last := 0, writes[len(writes)-1]
	for _, w := range writes {
		sum += 8 + len(w.Data)
	}
	if whole := last.At + len(last.Data) - writes[0].At; sum > 8+whole {
		t.Errorf("Diff(%.60q, %.60q): %d bytes, all from the first to the last are %d", old, next, sum, whole)
	}
}

func TestModelDiff(t *testing.T) { // P15.12
	from := rand.New(rand.NewSource(1512))
	for range 20000 {
		old := make([]byte, from.Intn(80))
		for i := range old {
			old[i] = byte(from.Intn(3))
		}
		next := make([]byte, from.Intn(80))
		copy(next, old)
		for range from.Intn(8) {
			if len(next) > 0 {
				next[from.Intn(len(next))] = byte(from.Intn(3))
			}
		}
		want := plainDiff(string(old), string(next))
		differs(t, string(old), string(next), want...)
		lessBytes(t, string(old), string(next), plan.Diff(old, next))
		if t.Failed() {
			return
		}
	}
}

func TestDiffLong(t *testing.T) { // P15.12: up to the bound of Apply, and beyond it
	old, next := strings.Repeat("ab", most/2), "b"+strings.Repeat("ba", most/2)[1:most-1]+"x"
	writes := plan.Diff([]byte(old), []byte(next))
	if len(writes) != 1 || writes[0].At != 0 || len(writes[0].Data) != most {
		t.Fatalf("Diff of two long texts: %d writes", len(writes))
	}
	lessBytes(t, old, next, writes)
	differs(t, old+"a", old+"b", api.Write{At: most, Data: []byte("b")})
}
