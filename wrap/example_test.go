package wrap_test

import (
	"bytes"
	"testing"

	"valise/api"
	"valise/wrap"
)

func TestExampleAdler(t *testing.T) { // example 1
	for data, want := range map[string]uint32{"": 1, "a": 0x00620062, "abc": 0x024D0127} {
		sums(t, data, want)
	}
	joins(t, 0x012600C4, 0x00640064, 1, 0x024D0127)
	unjoined(t, 1, 1, -1)
}

func TestExamplePutZlib(t *testing.T) { // example 2
	putZlib(t, "a", 6, hexed("78 9C 4B 04 00 00 62 00 62"))
	putZlib(t, "", 9, hexed("78 DA 03 00 00 00 00 01"))
	putZlib(t, "a", 0, hexed("78 01 01 01 00 FE FF 61 00 62 00 62"))
	refuseZlib(t, []byte("a"), 10, api.ErrDeflateLevel)
}

func TestExampleGetZlib(t *testing.T) { // example 3
	whole := hexed("78 9C 4B 04 00 00 62 00 62")
	getZlib(t, whole, 1, "a")
	noZlib(t, whole, 0, api.ErrInfLimit)
	noZlib(t, whole[:8]+"\x63", 1, api.ErrWrapSum)
	noZlib(t, whole[:8], 1, api.ErrWrapShort)
	noZlib(t, whole+"\x00", 1, api.ErrInfRest)
	noZlib(t, "\x78\x9d"+whole[2:], 1, api.ErrWrapHead)
	noZlib(t, "\x78\xbb"+whole[2:], 1, api.ErrWrapField)
	noZlib(t, "\x88\x1c"+whole[2:], 1, api.ErrWrapHead)
	noZlib(t, "\x78", 1, api.ErrWrapShort)
	noZlib(t, "\x78\x9c\x4b", 1, api.ErrInfEnd)
}

// ofA is the chapter's member of the text a.
func ofA() string {
	return hexed("1F 8B 08 00 00 00 00 00 00 00 4B 04 00 43 BE B7 E8 01 00 00 00")
}

func TestExamplePutGzip(t *testing.T) { // examples 4 and 6
	putGzip(t, ofA(), 6, api.Member{Data: []byte("a")})
	named := hexed("1F 8B 08 08 02 01 00 00 02 03 6E 00 03 00 00 00 00 00 00 00 00 00")
	putGzip(t, named, 1, api.Member{Name: "n", Time: 258, Hint: 2, System: 3})
	putGzip(t, "", 6)
	refuseGzip(t, api.ErrWrapField, 6, api.Member{Name: "a\x00"})
	refuseGzip(t, api.ErrDeflateLevel, 10, api.Member{Name: "a\x00"})
	refuseGzip(t, api.ErrDeflateLevel, 10, api.Member{Name: "a"})
	refuseGzip(t, api.ErrWrapField, 6, api.Member{Time: -1})
}

func TestExampleGetGzip(t *testing.T) { // example 5
	a, ones := ofA(), api.Member{Data: []byte("a")}
	getGzip(t, a, 9, ones)
	getGzip(t, a+a, 9, ones, ones)
	noGzip(t, a, 0, api.ErrInfLimit)
	noGzip(t, a+"\x1f", 9, api.ErrWrapShort)
	noGzip(t, a+string(make([]byte, 10)), 9, api.ErrWrapHead)
	noGzip(t, a[:3]+"\x20"+a[4:], 9, api.ErrWrapField)
	noGzip(t, a[:13]+"\x44"+a[14:], 9, api.ErrWrapSum)
	noGzip(t, a[:17]+"\x02"+a[18:], 9, api.ErrWrapSize)
	noGzip(t, a[:13]+"\x44"+a[14:17]+"\x02"+a[18:], 9, api.ErrWrapSum)
}

func TestExampleReadme(t *testing.T) { // what README.md says
	z, e := wrap.PutZlib([]byte("a"), 6)
	if !bytes.Equal(z, []byte{0x78, 0x9C, 0x4B, 0x04, 0x00, 0x00, 0x62, 0x00, 0x62}) || e != api.OK {
		t.Errorf("PutZlib = % x, %d", z, e)
	}
	getZlib(t, string(z), 100, "a")
	noZlib(t, string(z[:8]), 100, api.ErrWrapShort)
	z[8] ^= 1
	noZlib(t, string(z), 100, api.ErrWrapSum)
	a := api.Member{Name: "a.txt", Time: 1794960000, Checked: true, Data: []byte("hello")}
	b := api.Member{Data: []byte("world")}
	g, e := wrap.PutGzip(6, a, b)
	if e != api.OK {
		t.Errorf("PutGzip: %d", e)
	}
	getGzip(t, string(g), 100, a, b)
	noGzip(t, string(g), 9, api.ErrInfLimit)
	sum := wrap.Adler([]byte("ab"))
	joins(t, sum, wrap.Adler([]byte("c")), 1, 0x024D0127)
}
