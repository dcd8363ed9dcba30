package inflate_test

import (
	"strings"
	"testing"

	"valise/api"
	"valise/inflate"
)

func exact(t *testing.T, data []byte, size int, want string, wantE api.Errno) {
	t.Helper()
	out, e := inflate.Exact(data, size)
	if string(out) != want || e != wantE || e != api.OK && out != nil {
		t.Errorf("Exact(% x, %d) = %q, %d, want %q, %d", some(data), size, some(out), e, want, wantE)
	}
}

func TestExactOrder(t *testing.T) { // P8.2: the text's own error, then the size, then the rest
	abc := bytesOf(fixed(true, literals("abc")))
	exact(t, abc, 3, "abc", api.OK)
	for size := range 3 {
		exact(t, abc, size, "", api.ErrInfLimit)
		exact(t, append(abc, 0), size, "", api.ErrInfLimit)
	}
	for _, size := range []int{4, 5, 99, api.MaxCapacity} {
		exact(t, abc, size, "", api.ErrInfSize)
		exact(t, append(abc, 0), size, "", api.ErrInfSize)
		exact(t, abc[:len(abc)-1], size, "", api.ErrInfEnd)
	}
	exact(t, append(abc, 0), 3, "", api.ErrInfRest)
	exact(t, append(abc, 0, 0, 0), 3, "", api.ErrInfRest)
	exact(t, append(abc, abc...), 3, "", api.ErrInfRest)
	exact(t, abc[:len(abc)-1], 3, "", api.ErrInfEnd)
	exact(t, []byte{7, 7}, 0, "", api.ErrInfKind)
	exact(t, abc, -1, "", api.ErrArg)
	exact(t, abc, api.MaxCapacity+1, "", api.ErrArg)
}

func TestExactLastByte(t *testing.T) { // P8.2: the last used bit is in the last byte, at each place of it; the bits behind are not looked at
	for k := range 9 {
		plain := strings.Repeat("\xC8", k)
		text := fixed(true, literals(plain))
		for _, fill := range []string{"0", "1"} {
			whole := text + strings.Repeat(fill, (8-len(text)%8)%8)
			exact(t, bytesOf(whole), k, plain, api.OK)
			exact(t, bytesOf(whole+strings.Repeat(fill, 8)), k, "", api.ErrInfRest)
		}
	}
	exact(t, bytesOf(stored("", true, "")), 0, "", api.OK)
	exact(t, bytesOf(stored("", true, "hi")), 2, "hi", api.OK)
	exact(t, bytesOf(stored("", true, "hi")+"00000000"), 2, "", api.ErrInfRest)
	exact(t, bytesOf(fixed(true)), 0, "", api.OK)
	exact(t, append(bytesOf(fixed(true)), 0), 0, "", api.ErrInfRest)
}
