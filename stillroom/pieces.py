"""What the codes of runs and of matches have in common (point 21)."""

from stillroom.measure import spend


def read_pieces(data, left, piece_at):
    """The tuple (bytes, left). piece_at(data, at, found) returns the tuple of the
    bytes that the piece at the place gives, and the place of the next piece."""
    left, enough = spend(left, len(data))
    found = []
    at = 0
    while enough and at < len(data):
        piece, at = piece_at(data, at, found)
        left, enough = spend(left, len(piece))
        if enough:
            found.extend(piece)
    return found, left


def plain_piece(data):
    """The piece that gives 1 to 128 bytes as they are; nothing for no bytes."""
    if len(data) == 0:
        return []
    return [len(data) - 1] + data


def read_plain_piece(data, at):
    """The tuple (bytes, the place of the next piece) of such a piece, maybe broken off."""
    end = at + data[at] + 2
    return data[at + 1:end], end
