package inflate

import (
	"errors"
	"testing"

	"valise/api"
)

// TestOtherPanics: what the layer has not given up itself is not swallowed.
func TestOtherPanics(t *testing.T) { // chapter 8, 'Ways'
	own := errors.New("own")
	for _, v := range []any{own, "text", api.ErrInfEnd, 80} {
		func() {
			defer func() {
				if got := recover(); got != v {
					t.Errorf("the panic of %v is %v", v, got)
				}
			}()
			e := caught(func() { panic(v) })
			t.Errorf("the panic of %v has become %d", v, e)
		}()
	}
	if e := caught(func() {}); e != api.OK {
		t.Errorf("of nothing: %d", e)
	}
	if e := caught(func() { giveUp(api.ErrInfFar) }); e != api.ErrInfFar {
		t.Errorf("of what is given up: %d", e)
	}
}
