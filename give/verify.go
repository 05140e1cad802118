package give

import (
	"strings"

	"hardtack/api"
	"hardtack/pack"
	"hardtack/stamp"
)

// The places of secrets, in the order in which they are tried: a cookie that both make is the one by Now.
const (
	byNow = iota
	byWas
	places

	byNone = -1
)

func Verify(h api.Hash, s api.Secrets, client, server string, addr uint32, now int64) (bool, api.Errno) {
	if len(client) != clientSize {
		return false, api.ErrForm
	}
	if server == "" {
		return false, api.ErrNone
	}
	if len(server) != headSize+sumSize || !strings.HasPrefix(server, version) {
		return false, api.ErrForm
	}
	made := stampOf(server)
	if why := stamp.Fresh(now, made); why != api.OK {
		return false, why
	}
	by := maker(h, s, client, server, addr)
	if by == byNone {
		return false, api.ErrCode
	}
	return by != byNow || stamp.Renew(now, made), api.OK
}

func stampOf(server string) uint32 {
	return uint32(pack.Open(server[len(version):]).Num(stampSize))
}

// maker answers the place of the secret by which that client's cookie is this one.
func maker(h api.Hash, s api.Secrets, client, server string, addr uint32) int {
	for by, secret := range [places]string{byNow: s.Now, byWas: s.Was} {
		own, why := cookie(h, secret, client, server[:headSize], addr)
		if why == api.OK && own == server {
			return by
		}
	}
	return byNone
}
