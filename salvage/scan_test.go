package salvage_test

import (
	mathbits "math/bits"
	"math/rand"
	"strings"
	"testing"

	"valise/api"
	"valise/deflate"
	"valise/field"
	"valise/inflate"
)

func TestKinds(t *testing.T) { // 'Words' 2: all flags, needs and methods
	for _, make := range []func(name, text string) api.Item{stored, packed} {
		for bit := range 16 {
			x := make("a", "some text")
			x.Flags = 1 << bit
			switch 1 << bit {
			case 2, 4, 2048:
				finds(t, laid(x), entry(x, 0, 0))
			case 8: // there is no descriptor yet
				finds(t, laid(x))
				finds(t, early(x, true), entry(x, 0, 16))
			default:
				finds(t, laid(x))
				x.Flags |= 2 | 4 | 8 | 2048
				finds(t, laid(x)+described(x, true))
			}
		}
		x := make("a", "some text")
		x.Flags = 2 | 4 | 8 | 2048
		finds(t, laid(x)+described(x, true), entry(x, 0, 16))
		for _, need := range []int{0, 1, 9, 10, 11, 15, 19, 20, 21, 30, 45, 51, 63, 266, 276, 2560, 5120, 65535} {
			x := make("a", "b")
			x.Need = need
			if need == 10 || need == 20 {
				finds(t, laid(x), entry(x, 0, 0))
				continue
			}
			finds(t, laid(x))
		}
	}
	for _, method := range []int{1, 2, 3, 4, 5, 6, 7, 9, 10, 12, 14, 256, 264, 2048, 65535} {
		x, y := stored("a", "b"), packed("a", "b")
		x.Method, y.Method = method, method
		finds(t, laid(x))
		finds(t, laid(y))
		finds(t, late(y, true))
	}
	x, y := stored("a", "b"), packed("a", "b")
	x.Method, y.Method = api.MethodDeflate, api.MethodStore
	finds(t, laid(x))
	finds(t, laid(y))
}

func TestNames(t *testing.T) { // 'Words' 2: the name
	for _, name := range []string{"a", "dir/", "a/b", "...", "\xc3\xa9", strings.Repeat("n", 65535)} {
		x := stored(name, "text")
		finds(t, laid(x), entry(x, 0, 0))
	}
	for _, name := range []string{"", "/", "/a", "a//b", ".", "../a", "a\\b", "a\x00", "\x7f", "\xc3", strings.Repeat("n", 65534) + "\n"} {
		finds(t, laid(stored(name, "text")))
		finds(t, late(packed(name, "text"), true))
	}
}

func TestExtras(t *testing.T) { // 'Words' 2: the extra text, told as Extra and as LocalExtra
	for _, extra := range []string{"\x55\x54\x01\x00\x07", "\x00\x00\x00\x00", "\x01\x00\x02\x00PK\x55\x54\x00\x00", "\x01\x00\xfb\xff" + filled(65531)} {
		x := stored("a", "text")
		x.Extra = extra
		finds(t, laid(x)+laid(stored("b", "")), entry(x, 0, 0), entry(stored("b", ""), 31+len(extra)+4, 0))
		x.Extra = extra[:len(extra)-1]
		finds(t, laid(x))
		x.Extra = extra + "x"
		if len(x.Extra) <= 65535 {
			finds(t, laid(x))
		}
	}
}

func TestTimes(t *testing.T) { // 'Words': any time may stand there, also none that is
	x := stored("a", "text")
	for _, v := range []int{0, 1, 33, 0xffff, 1920, 49152} {
		x.Date, x.Clock = v, 0xffff-v
		finds(t, laid(x), entry(x, 0, 0))
	}
}

func TestStored(t *testing.T) { // 'Words' 3 and 5, method 0: every length and place around where sums are kept
	for _, ahead := range []int{0, 1, 31, 32, 33, 34, 63, 64, 65, 97, 128} {
		for _, n := range []int{0, 1, 2, 30, 31, 32, 33, 34, 63, 64, 65, 96, 97, 127, 128, 129, 1000, 4096} {
			x := stored("a", filled(n))
			at := ahead
			finds(t, filled(ahead)+laid(x), entry(x, at, 0))
			finds(t, filled(ahead)+laid(x)+"behind", entry(x, at, 0))
			if n > 0 {
				finds(t, filled(ahead)+laid(x)[:30+n])
				for _, spoilt := range []int{0, n / 2, n - 1} {
					finds(t, filled(ahead)+with(laid(x), 31+spoilt, '!')+"behind")
				}
			}
		}
	}
}

func TestStoredNumbers(t *testing.T) { // 'Words' 5, method 0: Size is Packed, Sum the bytes'
	for _, change := range []func(x *api.Item){
		func(x *api.Item) { x.Size++ },
		func(x *api.Item) { x.Size-- },
		func(x *api.Item) { x.Packed++ },
		func(x *api.Item) { x.Packed-- },
		func(x *api.Item) { x.Packed--; x.Size-- },
		func(x *api.Item) { x.Packed++; x.Size++ },
		func(x *api.Item) { x.Packed = api.MaxField; x.Size = api.MaxField },
		func(x *api.Item) { x.Packed = api.MaxField },
		func(x *api.Item) { x.Size = api.MaxField },
		func(x *api.Item) { x.Sum++ },
		func(x *api.Item) { x.Sum ^= 1 << 31 },
		func(x *api.Item) { x.Sum = 0 },
	} {
		x := stored("a", "text")
		change(&x)
		finds(t, laid(x)+"....")
		finds(t, early(x, true)+"....")
		finds(t, early(x, false)+"....")
	}
	shorter := stored("a", "text")
	shorter.Packed, shorter.Size, shorter.Sum = 3, 3, field.Sum([]byte("tex"))
	finds(t, laid(shorter), entry(shorter, 0, 0))
}

func TestPackedNumbers(t *testing.T) { // 'Words' 5, method 8: what Exact refuses, and the sum
	plain := strings.Repeat("some text ", 40)
	x := packed("a", plain)
	finds(t, laid(x), entry(x, 0, 0))
	for _, change := range []func(x *api.Item){
		func(x *api.Item) { x.Size++ },
		func(x *api.Item) { x.Size-- },
		func(x *api.Item) { x.Size = 0 },
		func(x *api.Item) { x.Size = api.MaxCapacity + 1 },
		func(x *api.Item) { x.Size = api.MaxField },
		func(x *api.Item) { x.Packed++ },
		func(x *api.Item) { x.Packed-- },
		func(x *api.Item) { x.Packed = 0 },
		func(x *api.Item) { x.Packed = api.MaxField },
		func(x *api.Item) { x.Sum++ },
		func(x *api.Item) { x.Sum = 0 },
		func(x *api.Item) { x.Bytes[0] |= 7 },
	} {
		x := packed("a", plain)
		change(&x)
		finds(t, laid(x)+"....")
		finds(t, early(x, true)+"....")
		finds(t, early(x, false)+"....")
	}
	for n := range laid(x) {
		finds(t, laid(x)[:n])
	}
	finds(t, laid(packedAs("a", "", ""))) // no packed text at all
	finds(t, laid(packedAs("a", "", "\x03\x00")), entry(packedAs("a", "", "\x03\x00"), 0, 0))
	finds(t, laid(packedAs("a", "", "\x03\x00\x00")))                                                      // a byte behind it
	finds(t, laid(packedAs("a", "", "\x03\xfc")), entry(packedAs("a", "", "\x03\xfc"), 0, 0))              // bits that are not used
	finds(t, laid(packedAs("a", "", "\x00\x00\x00\xff\xff")))                                              // no last block
	finds(t, laid(packedAs("a", "x", "\x01\x01\x00\xfe\xffx")), entry(packedAs("a", "x", "123456"), 0, 0)) // stored within
}

func TestLongTexts(t *testing.T) { // 'Words' 3 and 5: packed texts of all lengths, also those that end where a try ends
	for _, n := range []int{4084, 4085, 4086, 4090, 4091, 4092, 8000, 32757, 32758, 32759, 32763, 32764, 65535, 65536, 262133, 262134, 262135, 300000} {
		plain := strings.Repeat("0123456789", n/10+1)[:n]
		b, _ := deflate.Stored([]byte(plain))
		x := packedAs("a", plain, string(b))
		finds(t, laid(x), entry(x, 0, 0))
		finds(t, late(x, true), entry(marked(x), 0, 16))
		finds(t, late(x, false)+laid(stored("b", "")), entry(marked(x), 0, 12), entry(stored("b", ""), len(laid(x))+12, 0))
		finds(t, late(x, true)[:len(late(x, true))-1])
		finds(t, late(x, true)[:31+len(b)-1])
		finds(t, laid(x)[:30+len(b)])
		finds(t, with(laid(x), 31+len(b)-1, '!'))
		x.Packed++
		finds(t, laid(x)+"\x00")
	}
}

func TestLongHeaders(t *testing.T) { // 'Words' 3 and 5: the header of a dynamic block within which a try ends
	plain := ""
	for r := rand.New(rand.NewSource(194)); len(plain) < 400; {
		plain += string(rune('a' + r.Intn(1+r.Intn(20))))
	}
	dynamic, _ := deflate.Deflate([]byte(plain), 6)
	if pieces, _ := inflate.Walk(dynamic, len(plain)); len(pieces) != 1 || pieces[0].Kind != api.KindDynamic {
		t.Fatalf("%v", pieces)
	}
	for n := 4096 - 5 - len(dynamic) - 2; n <= 4096; n++ {
		head := []byte{0, byte(n), byte(n >> 8), ^byte(n), ^byte(n >> 8)}
		x := packedAs("a", filled(n)+plain, string(head)+filled(n)+string(dynamic))
		finds(t, laid(x), entry(x, 0, 0))
		finds(t, late(x, false), entry(marked(x), 0, 12))
	}
}

func TestDescriptors(t *testing.T) { // 'Words' 4, told in time
	for _, x := range []api.Item{stored("a", "text"), packed("a", "text"), stored("a", "x"), packed("a", "")} {
		for _, signed := range []bool{true, false} {
			file, n := early(x, signed), len(described(x, signed))
			finds(t, file, entry(marked(x), 0, n))
			finds(t, file+"PK\x07\x08", entry(marked(x), 0, n))
			for cut := range file {
				finds(t, file[:cut])
			}
			for at := len(file) - n; at < len(file); at++ {
				finds(t, with(file, at, file[at]+1)) // no byte of it is free
				finds(t, with(file, at, file[at]+1)+described(x, signed))
			}
			finds(t, laid(x)+described(x, signed), entry(x, 0, 0)) // without the flag nobody asks for one
		}
	}
}

func TestInTimeByOneNumber(t *testing.T) { // 'Words' 3: the three must all be 0 to be told late
	x := marked(packedAs("a", "", "\x03\x00")) // the sum and the size are 0, Packed is not
	finds(t, laid(x)+described(x, true), entry(x, 0, 16))
	for _, change := range []func(l *api.Local){func(l *api.Local) { l.Sum = 1 }, func(l *api.Local) { l.Packed = 1 }, func(l *api.Local) { l.Size = 1 }} {
		y := x
		y.Sum, y.Packed, y.Size = 0, 0, 0
		finds(t, laid(y)+described(x, true), entry(x, 0, 16))
		change(&y.Local)
		finds(t, laid(y)+described(x, true))
		finds(t, laid(y)+described(y, true))
	}
	empty := stored("a", "")
	finds(t, laid(empty), entry(empty, 0, 0)) // without the flag three zeros are the numbers themselves
	finds(t, early(empty, true))              // with it they are not, and method 0 has no end
	late := packed("a", "text")
	late.Sum, late.Packed, late.Size = 0, 0, 0
	finds(t, laid(late)+described(packed("a", "text"), true)) // told late, but for the flag
}

func TestLate(t *testing.T) { // 'Words' 3 to 5, told late
	for _, x := range []api.Item{packed("a", "text"), packed("a", ""), packed("a", strings.Repeat("text", 500)), packedAs("a", "x", "\x01\x01\x00\xfe\xffx")} {
		for _, signed := range []bool{true, false} {
			file, n := late(x, signed), len(described(x, signed))
			finds(t, file, entry(marked(x), 0, n))
			finds(t, "ahead"+file+"behind", entry(marked(x), 5, n))
			for cut := range file {
				finds(t, file[:cut])
			}
			for at := len(file) - n; at < len(file); at++ {
				finds(t, with(file, at, file[at]+1))
			}
			finds(t, file[:len(file)-n]+"x"+file[len(file)-n:])
		}
		finds(t, late(x, true)+late(x, false), entry(marked(x), 0, 16), entry(marked(x), len(late(x, true)), 12))
	}
	finds(t, late(packedAs("a", "", "\x07"), true))
	finds(t, late(packedAs("a", "", ""), true))
	x := packed("a", "text")
	x.Flags = 2 | 4 | 2048
	finds(t, late(x, true), entry(marked(x), 0, 16))
}

func TestOrder(t *testing.T) { // P19.1: the least place, then the least not below the end
	a, b, c := stored("a", "one"), packed("b", "two"), stored("a", "three")
	file := "PK" + laid(a) + "PK\x03\x04" + late(b, true) + laid(c) + "PK\x03"
	finds(t, file, entry(a, 2, 0), entry(marked(b), 40, 16), entry(c, 40+len(late(b, true)), 0))
}

func TestWithin(t *testing.T) { // P19.1: what lies within a whole entry is not found, and is where that one is not whole
	in, z := stored("in", "x"), stored("z", "")
	inner := laid(in) + laid(stored("too", ""))
	out := stored("out", inner)
	finds(t, laid(out)+laid(z), entry(out, 0, 0), entry(z, 33+len(inner), 0))
	finds(t, with(laid(out), 14, 0)+laid(z), entry(in, 33, 0), entry(stored("too", ""), 66, 0), entry(z, 33+len(inner), 0))
	b, _ := deflate.Stored([]byte(inner))
	wrapped := packedAs("out", inner, string(b))
	finds(t, late(wrapped, true), entry(marked(wrapped), 0, 16))
	finds(t, late(wrapped, true)[:len(late(wrapped, true))-1], entry(in, 38, 0), entry(stored("too", ""), 71, 0))
	extra := stored("e", "x")
	extra.Extra = "\x01\x00" + string([]byte{byte(len(inner)), 0}) + inner // in its extra text too
	finds(t, laid(extra), entry(extra, 0, 0))
	finds(t, with(laid(extra), len(laid(extra))-1, 'y'), entry(in, 35, 0), entry(stored("too", ""), 68, 0))
}

// summing is eight letters whose sum is that one: four that are tried, and four that follow from them, for each bit of these turns some of the sum's.
func summing(sum uint32) string {
	var rows [32][2]uint32 // by the highest bit of the sum that turns: all that turn, and the letters' bits that turn them
	zero := field.Sum(make([]byte, 4))
	for bit := range 32 {
		turns, by := field.Sum(littleEndian(1<<bit))^zero, uint32(1)<<bit
		for turns != 0 {
			row := &rows[mathbits.Len32(turns)-1]
			if row[0] == 0 {
				*row = [2]uint32{turns, by}
				break
			}
			turns, by = turns^row[0], by^row[1]
		}
	}
	for tried := uint32(0); ; tried++ {
		head := littleEndian(tried&0x07070707 | 0x48403830)
		left, tail := sum^field.Sum(append(head, 0, 0, 0, 0)), uint32(0)
		for left != 0 {
			row := rows[mathbits.Len32(left)-1]
			left, tail = left^row[0], tail^row[1]
		}
		if tail&0x80808080 == 0 {
			return string(append(head, littleEndian(tail)...))
		}
	}
}

func littleEndian(v uint32) []byte {
	return []byte{byte(v), byte(v >> 8), byte(v >> 16), byte(v >> 24)}
}

func TestWithinDescriptor(t *testing.T) { // P19.1: a descriptor whose bytes begin a local header, of an entry that would be whole
	plain := summing(0x04034b50)
	x, y := packed("a", plain), packed("b", "text") // x has 10 packed bytes and 8 plain ones, which are y's Need and Method
	y.Need, y.Clock = 10, 0
	if x.Sum != 0x04034b50 || x.Packed != 10 || described(x, false) != laid(y)[:12] {
		t.Fatalf("the descriptor is % x", described(x, false))
	}
	rest := laid(y)[12:]
	finds(t, described(x, false)+rest, entry(y, 0, 0))
	for _, file := range []string{late(x, false), late(x, true), early(x, false), early(x, true)} {
		n := len(file) - len(laid(x))
		finds(t, file+rest, entry(marked(x), 0, n))
		finds(t, file+rest+laid(y), entry(marked(x), 0, n), entry(y, len(file+rest), 0))
		finds(t, with(file, 31, 7)+rest, entry(y, len(file)-12, 0))
	}
}

func TestSignatures(t *testing.T) { // P19.1: signatures that begin nothing, and ones that overlap
	x := stored("a", "x")
	for _, ahead := range []string{"P", "PK", "PK\x03", "PK\x03\x04", "PPPP", "PKPK", "PK\x03PK\x03", "PK\x03\x04PK\x03\x04", "PK\x03\x04\x0a\x00\x00\x00\x00\x00"} {
		finds(t, ahead)
		finds(t, ahead+laid(x), entry(x, len(ahead), 0))
		finds(t, ahead+laid(x)+ahead, entry(x, len(ahead), 0))
	}
	for n := range len(laid(x)) {
		finds(t, laid(x)[:n])
		finds(t, laid(x)[:n]+laid(x), entry(x, n, 0))
	}
}

func TestArg(t *testing.T) { // P19.1, P19.2: the most bytes, and one more
	x := stored("a", "x")
	file := filled(api.MaxCapacity-len(laid(x))) + laid(x)
	finds(t, file, entry(x, api.MaxCapacity-len(laid(x)), 0))
	rebuilds(t, file, string(rendered(t, x)), api.OK)
	refusesAll(t, file+"x")
	refusesAll(t, "x"+file)
}
