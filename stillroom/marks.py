"""Marks of pages: plates, and what moves marks to the right (points 126, 135 and 138)."""


def plate(page_box, box, colour):
    """The mark that fills a box with a colour."""
    x0, y0, x1, y1 = box
    return "fill", page_box, (((x0, y0), (x1, y0), (x1, y1), (x0, y1)),), colour


def moved_right(align, room):
    """How far something is moved right where so much room is left behind it."""
    if align == "Right":
        return max(room, 0)
    if align == "Middle":
        return max(room, 0) // 2
    return 0
