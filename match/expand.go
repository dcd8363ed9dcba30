package match

import "valise/api"

// Expand tells the bytes of tokens.
func Expand(tokens []api.Token, limit int) ([]byte, api.Errno) {
	if limit < 0 || limit > api.MaxCapacity {
		return nil, api.ErrArg
	}
	var text []byte
	for _, token := range tokens {
		switch {
		case !sound(token):
			return nil, api.ErrMatchToken
		case token.Dist > len(text):
			return nil, api.ErrMatchFar
		case len(text)+max(token.Len, 1) > limit:
			return nil, api.ErrMatchLimit
		}
		text = put(text, token)
	}
	return text, api.OK
}

// sound says whether a token is a literal or a copy as there may be.
func sound(token api.Token) bool {
	if token.Len == 0 {
		return token.Dist == 0
	}
	return token.Len >= api.MinMatch && token.Len <= api.MaxMatch &&
		token.Dist >= 1 && token.Dist <= api.Window && token.Lit == 0
}

// put puts the bytes of a token behind a text. A copy goes byte by byte, as it may read what it has put itself.
func put(text []byte, token api.Token) []byte {
	if token.Len == 0 {
		return append(text, token.Lit)
	}
	for range token.Len {
		text = append(text, text[len(text)-token.Dist])
	}
	return text
}
