package plan_test

import (
	"math/rand"
	"testing"

	"valise/api"
	"valise/layout"
)

// TestChain goes through long rows of changes from an empty file on, each with just as much room as P15.11 asks for.
func TestChain(t *testing.T) { // P15.9 to P15.11
	from := rand.New(rand.NewSource(1511))
	for range 60 {
		file, want := "", map[string]string{}
		for range 120 {
			a := parsed(t, file)
			x := chainAsk(from, a)
			least, ok := enough(a, x)
			if !ok {
				t.Fatalf("%d bytes, tight %d", a.Size, layout.Tight(a.Entries, a.Comment))
			}
			p, e := x.on(least).call([]byte(file), a)
			if e != api.OK {
				t.Fatalf("%v over %d bytes = %d", x.on(least), len(file), e)
			}
			file = fair(t, file, x.on(least), p)
			switch x.kind {
			case "add":
				want[x.record.Name] = x.packed
			case "delete":
				delete(want, x.name)
			case "rename":
				want[x.to] = want[x.name]
				delete(want, x.name)
			}
			b := parsed(t, file)
			if len(b.Entries) != len(want) {
				t.Fatalf("behind %v: %d entries, want %d", x, len(b.Entries), len(want))
			}
			for _, y := range b.Entries {
				if packed, there := want[y.Name]; !there || file[y.Data:y.Data+y.Packed] != packed {
					t.Fatalf("behind %v: %q has other bytes", x, y.Name)
				}
			}
		}
	}
}

// chainAsk is a drawn call that is not refused for its names, and whose comment has fewer than ten bytes.
func chainAsk(from *rand.Rand, a api.Archive) ask {
	there := map[string]int{}
	for i, y := range a.Entries {
		there[y.Name] = i
	}
	for {
		x := drawAsk(from, nil)
		if x.kind == "note" {
			x.comment = x.comment[:min(len(x.comment), 9)]
		}
		_, named := there[x.name]
		_, taken := there[x.to]
		_, e := plainChangeOf("", api.Archive{}, x)
		switch {
		case e == api.ErrArg || e == api.ErrName, x.kind == "delete" && !named, x.kind == "rename" && (!named || taken):
			continue
		}
		return x
	}
}
