"""The code of matches (points 24 and 25)."""

from stillroom.fields import read_low_first, write_low_first
from stillroom.pieces import plain_piece, read_pieces, read_plain_piece

_FIRST_MATCH = 128
_SHORTEST = 3
_LONGEST = 130
_FARTHEST = 4096
_MOST_CANDIDATES = 16
_MOST_KEPT = 128


def unsqueeze(data, left):
    """The tuple (bytes, left) of the lenient reader of matches."""
    return read_pieces(data, left, _match_at)


def _match_at(data, at, given):
    count = data[at]
    if count < _FIRST_MATCH:
        return read_plain_piece(data, at)
    return _given_again(given, data[at + 1:at + 3], count - _FIRST_MATCH + _SHORTEST), at + 3


def _given_again(given, distance_bytes, many):
    distance = read_low_first(distance_bytes)
    if len(distance_bytes) < 2 or distance == 0 or distance > len(given):
        return []
    start = len(given) - distance
    stretch = given[start:start + many]
    # Where the match goes on into its own bytes, the stretch repeats itself.
    return (stretch * (many // len(stretch) + 1))[:many]


def squeeze(data):
    """The byte list of the matches of a byte list."""
    found = []
    kept = []
    places = {}
    at = 0
    while at < len(data):
        distance, many = _best_match(data, at, places)
        if many > 0:
            found.extend(plain_piece(kept))
            kept = []
            found.append(many - _SHORTEST + _FIRST_MATCH)
            found.extend(write_low_first(distance, 2))
        else:
            many = 1
            kept.append(data[at])
            if len(kept) == _MOST_KEPT:
                found.extend(plain_piece(kept))
                kept = []
        for place in range(at, at + many):
            places.setdefault(_three_bytes(data, place), []).append(place)
        at += many
    return found + plain_piece(kept)


def _three_bytes(data, at):
    return tuple(data[at:at + _SHORTEST])


def _best_match(data, at, places):
    """The tuple (distance, number of equal bytes), or (0, 0) if there is no candidate.
    places has the earlier places, in order, at which the same three bytes begin."""
    if at + _SHORTEST > len(data):
        return 0, 0
    distance = 0
    many = 0
    nearest = places.get(_three_bytes(data, at), [])[-_MOST_CANDIDATES:]
    for place in reversed(nearest):
        if at - place > _FARTHEST:
            break
        equal = _count_equal(data, place, at)
        if equal > many:
            distance = at - place
            many = equal
    return distance, many


def _count_equal(data, place, at):
    most = min(_LONGEST, len(data) - at)
    many = 0
    while many < most and data[place + many] == data[at + many]:
        many += 1
    return many
