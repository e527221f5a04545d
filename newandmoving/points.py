"""What is new, what became of the known points, which may be one thing going on, where it is, what may be chance."""

from newandmoving.words import FINE_PARTS, FinePlace, finely, long_word, read_points, refusal, rounded, signed

MOST_POINTS_SEEN = 256
MOST_POINTS_JOINED = 48
MOST_R = 65535
MOST_D = 131072
MOST_Q = 65535
MOST_E = 16777216
MOST_LEAST = 255
MOST_TIMES = 256
FARTHEST_TIME = 65536

# The points and the reach of a chance are taken modulo these, and no chance is above certain.
CHANCE_POINTS = 4096
CHANCE_REACH = 1024
CERTAIN = 65536

AS_IT_WAS = 0
BRIGHTER = 1
FAINTER = 2
GONE = 3


# All but g are times g, so that they stay whole numbers.
class Fit:
    def __init__(self, x0, vx, y0, vy, g):
        self.x0 = x0
        self.vx = vx
        self.y0 = y0
        self.vy = vy
        self.g = g


# Squared, so that it stays a whole number.
def how_far(a, b):
    across = a.x - b.x
    along = a.y - b.y
    return across * across + along * along


def nearest(point, others):
    best = None
    for other in others:
        # Only a nearer one takes the place, so that of as near ones the first is kept.
        if best is None or how_far(point, other) < how_far(point, best):
            best = other
    return best


def nearest_within(r, point, others):
    best = nearest(point, others)
    if best is None or how_far(point, best) > r * r:
        return None
    return best


def state(r, d, point, seen):
    now = nearest_within(r, point, seen)
    if now is None:
        return GONE
    # Less is brighter.
    if point.brightness - now.brightness > d:
        return BRIGHTER
    if now.brightness - point.brightness > d:
        return FAINTER
    return AS_IT_WAS


def may_be_one(q, earlier, later):
    between = later.t - earlier.t
    reach = q * between
    return between > 0 and how_far(earlier, later) <= reach * reach


def pairs_of(q, points):
    found = []
    for first in range(len(points)):
        for second in range(len(points)):
            if may_be_one(q, points[first], points[second]):
                found.append((first, second))
    return found


def where_they_say(a, b, t):
    # Two points that are told in the wrong order, or at one time, still say something.
    between = max(b.t - a.t, 1)
    since = t - a.t
    return FinePlace(
        FINE_PARTS * a.x + rounded(FINE_PARTS * (b.x - a.x) * since, between),
        FINE_PARTS * a.y + rounded(FINE_PARTS * (b.y - a.y) * since, between),
    )


def how_far_beside(a, b, c):
    return how_far(where_they_say(a, b, c.t), finely(c))


def goes_on(e, a, b, c):
    return c.t > b.t and how_far_beside(a, b, c) <= e * e


def goes_ahead_of(a, b, c, other):
    if c.t != other.t:
        return c.t < other.t
    return how_far_beside(a, b, c) < how_far_beside(a, b, other)


# The last two of a way alone say where it goes on.
def next_number(e, way, points):
    a = points[way[-2]]
    b = points[way[-1]]
    best = None
    for k in range(len(points)):
        if goes_on(e, a, b, points[k]):
            # Only one that goes ahead takes the place, so that of as near ones the first is kept.
            if best is None or goes_ahead_of(a, b, points[k], points[best]):
                best = k
    return best


def way_from(e, pair, points):
    way = list(pair)
    following = next_number(e, way, points)
    # Each point is later than the one ahead of it, so there is an end to this.
    while following is not None:
        way.append(following)
        following = next_number(e, way, points)
    return way


def sum_of_products(us, vs):
    return sum([us[k] * vs[k] for k in range(len(us))])


# None where there is no fit: fewer than two points, or all at one time.
def fit_of(points):
    n = len(points)
    ts = [point.t for point in points]
    xs = [point.x for point in points]
    ys = [point.y for point in points]
    sum_t = sum(ts)
    sum_tt = sum_of_products(ts, ts)
    g = n * sum_tt - sum_t * sum_t
    if g <= 0:
        return None
    sum_x = sum(xs)
    sum_tx = sum_of_products(ts, xs)
    sum_y = sum(ys)
    sum_ty = sum_of_products(ts, ys)
    return Fit(
        sum_tt * sum_x - sum_t * sum_tx,
        n * sum_tx - sum_t * sum_x,
        sum_tt * sum_y - sum_t * sum_ty,
        n * sum_ty - sum_t * sum_y,
        g,
    )


def place_at(fit, t):
    return FinePlace(
        rounded(FINE_PARTS * (fit.x0 + fit.vx * t), fit.g),
        rounded(FINE_PARTS * (fit.y0 + fit.vy * t), fit.g),
    )


def worst_of(fit, points):
    return max([how_far(place_at(fit, point.t), finely(point)) for point in points])


def place_words(place):
    return [long_word(place.x), long_word(place.y)]


def mo_new(r, known, l):
    refused = refusal(r <= MOST_R, MOST_POINTS_SEEN, [known, l])
    if refused < 0:
        return [refused]
    before = read_points(known)
    seen = read_points(l)
    fresh = [k for k in range(len(seen)) if nearest_within(r, seen[k], before) is None]
    return [len(fresh)] + fresh


def mo_states(r, d, known, l):
    refused = refusal(r <= MOST_R and d <= MOST_D, MOST_POINTS_SEEN, [known, l])
    if refused < 0:
        return [refused]
    seen = read_points(l)
    return [0] + [state(r, d, point, seen) for point in read_points(known)]


def mo_pairs(q, l):
    refused = refusal(q <= MOST_Q, MOST_POINTS_JOINED, [l])
    if refused < 0:
        return [refused]
    found = pairs_of(q, read_points(l))
    answer = [len(found)]
    for pair in found:
        answer.extend(pair)
    return answer


def mo_ways(q, e, least, l):
    refused = refusal(q <= MOST_Q and e <= MOST_E and least <= MOST_LEAST, MOST_POINTS_JOINED, [l])
    if refused < 0:
        return [refused]
    points = read_points(l)
    many = 0
    way_of = [0 for point in points]
    for pair in pairs_of(q, points):
        way = way_from(e, pair, points)
        if len(way) >= least and all([way_of[k] == 0 for k in way]):
            many += 1
            for k in way:
                way_of[k] = many
    return [many] + way_of


def mo_ahead(t, ab):
    refused = refusal(True, MOST_POINTS_JOINED, [ab])
    if refused < 0:
        return [refused]
    points = read_points(ab)
    return [0] + place_words(where_they_say(points[0], points[1], signed(t)))


def mo_fit(l):
    refused = refusal(True, MOST_POINTS_JOINED, [l])
    if refused < 0:
        return [refused]
    points = read_points(l)
    fit = fit_of(points)
    if fit is None:
        return [-4]
    told = [long_word(number) for number in (fit.x0, fit.vx, fit.y0, fit.vy, fit.g)]
    return [0, len(told)] + told + [1, long_word(worst_of(fit, points))]


def mo_place(l, ts):
    refused = refusal(len(ts) <= MOST_TIMES, MOST_POINTS_JOINED, [l])
    if refused < 0:
        return [refused]
    times = [signed(word) for word in ts]
    # Ahead of the fit, since -3 goes ahead of -4.
    if any([abs(t) > FARTHEST_TIME for t in times]):
        return [-3]
    fit = fit_of(read_points(l))
    if fit is None:
        return [-4]
    answer = [0]
    for t in times:
        answer.extend(place_words(place_at(fit, t)))
    return answer


def mo_one(e, a, b):
    refused = refusal(e <= MOST_E, MOST_POINTS_JOINED, [a, b])
    if refused < 0:
        return [refused]
    points = read_points(a) + read_points(b)
    fit = fit_of(points)
    # Without a fit they are not one, which is an answer here and no refusal.
    if fit is None or worst_of(fit, points) > e * e:
        return [0]
    return [1]


def mo_chance1(n, r, w, h):
    side = 2 * (r % CHANCE_REACH) + 1
    reached = n % CHANCE_POINTS * side * side
    # A side of 0 counts as 1, so that there is a field to divide by.
    field = max(w, 1) * max(h, 1)
    return [min(reached * CERTAIN // field, CERTAIN)]
