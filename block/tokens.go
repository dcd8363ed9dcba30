package block

import "valise/api"

// sound says whether a token may be.
func sound(token api.Token) bool {
	if token.Len == 0 {
		return token.Dist == 0
	}
	return token.Len >= api.MinMatch && token.Len <= api.MaxMatch &&
		token.Dist >= 1 && token.Dist <= api.Window && token.Lit == 0
}

// allSound says whether all tokens may be.
func allSound(tokens []api.Token) bool {
	for _, token := range tokens {
		if !sound(token) {
			return false
		}
	}
	return true
}

// said tells how many bytes tokens say. A block that can't be stored isn't made in another kind either, so what it can hold bounds them all.
func said(tokens []api.Token) (int, api.Errno) {
	if !allSound(tokens) {
		return 0, api.ErrBlockToken
	}
	n := 0
	for _, token := range tokens {
		n += max(token.Len, 1)
	}
	if n > api.MaxRaw {
		return 0, api.ErrBlockLong
	}
	return n, api.OK
}
