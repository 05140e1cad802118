package edns

import (
	"slices"

	"hardtack/api"
)

const (
	codeCookies = 10

	clientSize  = 8
	leastServer = 8
	mostServer  = 32
)

func Cookies(e api.Edns) (string, string, api.Errno) {
	first := slices.IndexFunc(e.Options, isOf(codeCookies))
	if first < 0 {
		return "", "", api.ErrNone
	}
	data := e.Options[first].Data
	size := min(clientSize, len(data))
	client, server := data[:size], data[size:]
	if !areCookies(client, server) {
		return "", "", api.ErrForm
	}
	return client, server, api.OK
}

func With(e api.Edns, client, server string) (api.Edns, api.Errno) {
	if !areCookies(client, server) {
		return api.Edns{}, api.ErrForm
	}
	e.There = true
	e.Options = append(without(e.Options, isOf(codeCookies)), api.Option{Code: codeCookies, Data: client + server})
	return e, api.OK
}

func isOf(code uint16) func(api.Option) bool {
	return func(o api.Option) bool { return o.Code == code }
}

// areCookies looks at each on its own: a client's that is too long may not pass for a server's beginning.
func areCookies(client, server string) bool {
	if len(client) != clientSize {
		return false
	}
	return server == "" || leastServer <= len(server) && len(server) <= mostServer
}
