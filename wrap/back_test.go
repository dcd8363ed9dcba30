package wrap_test

import (
	"math/rand"
	"strings"
	"testing"

	"valise/api"
	"valise/wrap"
)

// drawName is a drawn text without a byte 0, often empty.
func drawName(r *rand.Rand) string {
	name := make([]byte, r.Intn(2)*r.Intn(20))
	for i := range name {
		name[i] = byte(1 + r.Intn(255))
	}
	return string(name)
}

// drawMember is a drawn member that may be.
func drawMember(r *rand.Rand) api.Member {
	m := api.Member{Text: r.Intn(2) == 0, Checked: r.Intn(2) == 0, Time: r.Intn(api.MaxField + 1), Hint: r.Intn(256), System: r.Intn(256)}
	m.Name, m.Note = drawName(r), drawName(r)
	extra := make([]byte, r.Intn(2)*r.Intn(20))
	r.Read(extra)
	m.Extra = string(extra)
	m.Data = []byte(filler(r.Int63(), r.Intn(1+r.Intn(600))))
	return m
}

func drawMembers(r *rand.Rand) []api.Member {
	members := make([]api.Member, r.Intn(4))
	for i := range members {
		members[i] = drawMember(r)
	}
	return members
}

// sizeOf tells how many plain bytes members have.
func sizeOf(members []api.Member) int {
	n := 0
	for _, m := range members {
		n += len(m.Data)
	}
	return n
}

func TestZlibBack(t *testing.T) { // P23.7
	r := rand.New(rand.NewSource(310))
	for range 300 {
		plain := filler(r.Int63(), r.Intn(1+r.Intn(5000)))
		data, e := wrap.PutZlib([]byte(plain), r.Intn(10))
		if e != api.OK {
			t.Fatal(e)
		}
		for _, limit := range []int{len(plain), len(plain) + r.Intn(1000), api.MaxCapacity} {
			getZlib(t, string(data), limit, plain)
		}
	}
}

func TestGzipBack(t *testing.T) { // P23.7
	r := rand.New(rand.NewSource(311))
	for range 500 {
		members := drawMembers(r)
		data, e := wrap.PutGzip(r.Intn(10), members...)
		if e != api.OK {
			t.Fatal(e)
		}
		n := sizeOf(members)
		for _, limit := range []int{n, n + r.Intn(1000), api.MaxCapacity} {
			getGzip(t, string(data), limit, members...)
		}
	}
}

func TestGzipBackMany(t *testing.T) { // P23.7: members that are packed side by side come back in their order
	r := rand.New(rand.NewSource(312))
	members := make([]api.Member, 1000)
	for i := range members {
		members[i] = drawMember(r)
	}
	data, e := wrap.PutGzip(5, members...)
	if e != api.OK {
		t.Fatal(e)
	}
	getGzip(t, string(data), sizeOf(members), members...)
}

func TestGzipOneBehindTheOther(t *testing.T) { // P23.7
	r := rand.New(rand.NewSource(313))
	for range 300 {
		members, level := drawMembers(r), r.Intn(10)
		at := r.Intn(len(members) + 1)
		first, _ := wrap.PutGzip(level, members[:at]...)
		second, _ := wrap.PutGzip(level, members[at:]...)
		putGzip(t, string(first)+string(second), level, members...)
	}
}

func TestGzipPrefixes(t *testing.T) { // P23.8: no first part is taken
	for _, m := range []api.Member{{}, {Data: []byte("a")}, full(filler(314, 400)), {Name: "n", Data: []byte(filler(315, 400))}} {
		for level := range 10 {
			whole, _ := wrap.PutGzip(level, m)
			getGzip(t, "", len(m.Data))
			for n := 1; n < len(whole); n++ {
				out, e := wrap.GetGzip(whole[:n], len(m.Data))
				if short := e == api.ErrWrapShort || e == api.ErrInfEnd || e == api.ErrHeadEnd; out != nil || !short {
					t.Errorf("level %d, %d of %d bytes: %v, %d", level, n, len(whole), out, e)
				}
			}
		}
	}
}

func TestGzipTurned(t *testing.T) { // P23.8: each bit behind the text, and at the level 0 each other byte in it
	m := full(filler(316, 60))
	for level := range 10 {
		whole, _ := wrap.PutGzip(level, m)
		for bit := range 64 {
			other := []byte(string(whole))
			other[len(other)-8+bit/8] ^= 1 << (bit % 8)
			want := api.ErrWrapSum
			if bit >= 32 {
				want = api.ErrWrapSize
			}
			noGzip(t, string(other), len(m.Data), want)
		}
	}
	whole, _ := wrap.PutGzip(0, m)
	from := strings.Index(string(whole), string(m.Data))
	for at := range m.Data {
		for by := 1; by < 256; by++ {
			other := []byte(string(whole))
			other[from+at] ^= byte(by)
			noGzip(t, string(other), len(m.Data), api.ErrWrapSum)
		}
	}
}
