"""The places of patterns that names reach (points 188 and 192)."""

_STAR = 42


def form_of(pattern):
    """What a pattern, a tuple of bytes, is reached by: the tuple (its length, its stars, a
    dict of the places at which its other bytes stand). Places are the bits of numbers."""
    stars = 0
    places = {}
    for at, byte in enumerate(pattern):
        if byte == _STAR:
            stars |= 1 << at
        else:
            places[byte] = places.get(byte, 0) | (1 << at)
    return len(pattern), stars, places


def first_places(form):
    """The places that are reached at the beginning of a name."""
    return _behind_stars(form, 1)


def next_places(form, places, byte):
    """The places that are reached behind a byte, if these are reached before it."""
    _, stars, table = form
    return _behind_stars(form, ((places & table.get(byte, 0)) << 1) | (places & stars))


def _behind_stars(form, places):
    """The places, and those behind each star among them."""
    stars = form[1]
    more = places | ((places & stars) << 1)
    while more != places:
        places = more
        more = places | ((places & stars) << 1)
    return places


def is_matched(form, places):
    """True if a name that reaches these places at its end matches."""
    return (places >> form[0]) & 1 == 1


def bytes_at(form, places):
    """The list of the bytes that stand at some places."""
    return [byte for byte, found in form[2].items() if found & places]
